/-
  Texts in one: AstEq, AstEqS, AstTo, AstToS, AstUnder.
-/
import Derived.Test.YtkilmefpaojkfaaDoorP01ofExpText
import Derived.Deep.RegionWith
import Derived.Deep.Cut
import Derived.Deep.CutRange
import Derived.Deep.RegionHeld
/-
  The contracts of eqExp, eqExpS where both are the same.
-/
namespace Go.Proofs.YtkilmefpaojkfaaDoor
open Go.RowKit Go.Lib
set_option linter.unusedSimpArgs false
set_option linter.unusedVariables false

theorem EV.drew {w : World} {lo : Nat} {F : EF} {v : Value} (h : EV w lo F v) : EV w.drew lo F v := h.same (Nat.le_refl _) (fun a v _ hc => hc)
theorem SV.drew {w : World} {lo : Nat} {F : SF} {v : Value} (h : SV w lo F v) : SV w.drew lo F v := h.same (Nat.le_refl _) (fun a v _ hc => hc)
set_option maxHeartbeats 1000000 in
theorem eqExp_of (x : X)
    (ih : ∀ (w : World) (va vb : Value), EV w 0 x.l va → EV w 0 x.l vb → Calls Tryd.prog 15 #[va, vb] w fun e w' => e = .returned (.bool true) ∧ Below w.heap.size w w')
    (w : World) (va vb : Value) (ha : EV w 0 x.l va) (hb : EV w 0 x.l vb) :
    Calls Tryd.prog 8 #[.agg #[.int .i64 x.h.k, .int .i64 x.h.n, .string x.h.s, va], .agg #[.int .i64 x.h.k, .int .i64 x.h.n, .string x.h.s, vb]] w fun e w' => e = .returned (.bool true) ∧ Below w.heap.size w w' := by
  have Hih := Lib.hid ih
  have Ha := Lib.hid ha
  have Hb := Lib.hid hb
  clear ih ha hb
  go_enter Tryd.func8, Tryd.ntmps8
  go_wp2_with fail
  have hb2 := (alloc_below w (.cells #[.int .i64 x.h.k, .int .i64 x.h.n, .string x.h.s, va] 29)).alloc (by simp) (.cells #[.int .i64 x.h.k, .int .i64 x.h.n, .string x.h.s, vb] 29)
  refine (Hih.out _ _ _ (Ha.out.later hb2) (Hb.out.later hb2)).mono ?_
  rintro e w1 ⟨rfl, hb1⟩
  have hB := hb2.trans (hb1.mono hb2.size)
  clear hb1 hb2
  go_wp2
  go_ret
  exact ⟨rfl, hB⟩
set_option maxHeartbeats 2000000 in
theorem eqExpS_step (F : EF) (hn : elen F ≤ 100000000)
    (ih : ∀ l : EF, enodes l < enodes F → ∀ (w : World) (va vb : Value), EV w 0 l va → EV w 0 l vb → Calls Tryd.prog 15 #[va, vb] w fun e w' => e = .returned (.bool true) ∧ Below w.heap.size w w')
    (w : World) (va vb : Value) (ha : EV w 0 F va) (hb : EV w 0 F vb) :
    Calls Tryd.prog 15 #[va, vb] w fun e w' => e = .returned (.bool true) ∧ Below w.heap.size w w' := by
  obtain ⟨b1, o1, ao1, cap1, rfl, hao1, _, hin1⟩ := ha
  obtain ⟨b2, o2, ao2, cap2, rfl, hao2, _, hin2⟩ := hb
  have Hih := Lib.hid ih
  clear ih
  go_enter Tryd.func15, Tryd.ntmps15
  go_wp2
  go_loopw [5] (fun i wr => ∃ (R : EF) (k : Nat), i = .int .i64 (k : Int) ∧ Hid (k + elen R = elen F ∧ enodes R ≤ enodes F ∧ EIn w 0 R b1 (o1 + k * 4) ∧ EIn w 0 R b2 (o2 + k * 4)) ∧ Below w.heap.size w wr) (fun i _ => elen F - (RowKit.intOf i).toNat)
  case atStart => exact ⟨F, 0, rfl, ⟨by omega, Nat.le_refl _, by simpa using hin1, by simpa using hin2⟩, Below.refl _ _⟩
  case round =>
    obtain ⟨R, k, rfl, hr, hbw⟩ := hrel
    obtain ⟨e1, e2, e3, e4⟩ := hr.out
    cases R with
    | nil =>
      have hk : ¬ (k : Int) < (elen F : Int) := by simp only [elen] at e1; omega
      go_wp2
      go_ret
      exact ⟨rfl, hbw⟩
    | node p q h l r =>
      have hlt : (k : Int) < (elen F : Int) := by simp only [elen] at e1; omega
      have hne : ¬ F = .nil := by intro e; subst e; simp only [elen] at e1; omega
      obtain rfl : ao1 = some ⟨b1, o1, Option.none⟩ := hao1.resolve_right hne
      obtain rfl : ao2 = some ⟨b2, o2, Option.none⟩ := hao2.resolve_right hne
      obtain ⟨⟨a0, a1, a2, u1, a3, hu1⟩, _⟩ := EIn_node.1 (EIn_later hbw _ _ _ e3)
      obtain ⟨⟨c0, c1, c2, u2, c3, hu2⟩, _⟩ := EIn_node.1 (EIn_later hbw _ _ _ e4)
      simp only [enodes] at e2
      have Hl := Lib.hid (fun w va vb => Hih.out l (by omega) w va vb)
      have He : Hid (k + 1 + elen r = elen F ∧ enodes r ≤ enodes F ∧ EIn w 0 r b1 (o1 + (k + 1) * 4) ∧ EIn w 0 r b2 (o2 + (k + 1) * 4)) := ⟨by simp only [elen] at e1; omega, by omega, by rw [show o1 + (k + 1) * 4 = o1 + k * 4 + 4 by omega]; exact (EIn_node.1 e3).2, by rw [show o2 + (k + 1) * 4 = o2 + k * 4 + 4 by omega]; exact (EIn_node.1 e4).2⟩
      have HU := Lib.hid (And.intro hu1 hu2)
      clear hr e1 e2 e3 e4 hin1 hin2 hne hao1 hao2 hu1 hu2
      go_wp2_with fail
      go_cut [26] from 11 to 26 (fun v wx => v = .bool false ∧ Below wr.heap.size wr wx)
      case first =>
        go_region_with (go_at_call 8; refine (eqExp_of ⟨h, l⟩ Hl.out _ _ _ HU.out.1.drew HU.out.2.drew).mono ?_; rintro e w1 ⟨rfl, hb1⟩)
        all_goals (try go_wp2_with fail)
        all_goals go_meet
        all_goals exact ⟨rfl, ⟨hb1.os, hb1.tape, hb1.output, hb1.size, hb1.block⟩⟩
      case rest =>
        obtain ⟨rfl, hb1⟩ := hcut
        have hbw2 := hbw.trans (hb1.mono hbw.size)
        clear a0 a1 a2 a3 c0 c1 c2 c3 hb1
        go_wp2
        go_roundw
        case rel => exact ⟨r, k + 1, by go_num, He.out, hbw2⟩
        case measure => simp [RowKit.intOf]; omega
theorem eqExpS_all : ∀ (n : Nat) (F : EF), enodes F < n → enodes F ≤ 100000000 → ∀ (w : World) (va vb : Value), EV w 0 F va → EV w 0 F vb → Calls Tryd.prog 15 #[va, vb] w fun e w' => e = .returned (.bool true) ∧ Below w.heap.size w w'
  | 0, _, h, _, _, _, _, _, _ => absurd h (by omega)
  | n + 1, F, h, hn, w, va, vb, ha, hb => eqExpS_step F (Nat.le_trans (elen_le F) hn) (fun l hl w va vb a b => eqExpS_all n l (by omega) (by omega) w va vb a b) w va vb ha hb
theorem eqExpS_is (F : EF) (hF : esize F ≤ 1048576) (w : World) (va vb : Value) (ha : EV w 0 F va) (hb : EV w 0 F vb) :
    Calls Tryd.prog 15 #[va, vb] w fun e w' => e = .returned (.bool true) ∧ Below w.heap.size w w' := eqExpS_all _ F (Nat.lt_succ_self _) (by have := enodes_le F; omega) w va vb ha hb
theorem eqExp_is (x : X) (hx : xsize x ≤ 1048576) (w : World) (va vb : Value) (ha : EV w 0 x.l va) (hb : EV w 0 x.l vb) :
    Calls Tryd.prog 8 #[.agg #[.int .i64 x.h.k, .int .i64 x.h.n, .string x.h.s, va], .agg #[.int .i64 x.h.k, .int .i64 x.h.n, .string x.h.s, vb]] w fun e w' => e = .returned (.bool true) ∧ Below w.heap.size w w' :=
  eqExp_of x (fun w va vb a b => eqExpS_is x.l (by unfold xsize at hx; omega) w va vb a b) w va vb ha hb
end Go.Proofs.YtkilmefpaojkfaaDoor
/-
  The contracts of eqStmt, eqStmtS where both are the same.
-/
namespace Go.Proofs.YtkilmefpaojkfaaDoor
open Go.RowKit Go.Lib
set_option linter.unusedSimpArgs false
set_option linter.unusedVariables false

theorem sizeIE2 : (Tryd.prog.info? 29).map (·.size) = some 4 := by kernel_rfl
section
variable {w : World} {b : Nat} {h : SH} {v1 v2 v3 v4 v : Value}
theorem part1 (r : w.rangeAt b 0 (scells h v1 v2 v3 v4 v)) : w.rangeAt b 2 (xcells h.x1 v1) := by
  have := rangeAt_part (ds := [.int .i64 h.k, .string h.s]) (es := xcells h.x1 v1) r rfl; rwa [Nat.zero_add] at this
theorem part2 (r : w.rangeAt b 0 (scells h v1 v2 v3 v4 v)) : w.rangeAt b 6 (xcells h.x2 v2) := by
  have := rangeAt_part (ds := [.int .i64 h.k, .string h.s] ++ xcells h.x1 v1) (es := xcells h.x2 v2) r rfl; rwa [Nat.zero_add] at this
theorem part3 (r : w.rangeAt b 0 (scells h v1 v2 v3 v4 v)) : w.rangeAt b 10 (xcells h.x3 v3) := by
  have := rangeAt_part (ds := [.int .i64 h.k, .string h.s] ++ xcells h.x1 v1 ++ xcells h.x2 v2) (es := xcells h.x3 v3) r rfl; rwa [Nat.zero_add] at this
theorem part4 (r : w.rangeAt b 0 (scells h v1 v2 v3 v4 v)) : w.rangeAt b 14 (xcells h.x4 v4) := by
  have := rangeAt_part (ds := [.int .i64 h.k, .string h.s] ++ xcells h.x1 v1 ++ xcells h.x2 v2 ++ xcells h.x3 v3) (es := xcells h.x4 v4) r rfl; rwa [Nat.zero_add] at this
theorem part5 (r : w.rangeAt b 0 (scells h v1 v2 v3 v4 v)) : w.cell? ⟨b, 18, Option.none⟩ = some v := by
  have := r 18 v rfl; rwa [Nat.zero_add] at this
end
/-- Two statements that came in, each in a block of its own. -/
structure Two (w0 w : World) (N : Nat) (g h : SH) (a1 a2 a3 a4 a b1 b2 b3 b4 b : Value) : Prop where
  r1 : w.rangeAt N 0 (scells g a1 a2 a3 a4 a)
  r2 : w.rangeAt (N + 1) 0 (scells h b1 b2 b3 b4 b)
  low : Below w0.heap.size w0 w
theorem Two.later {w0 w w' : World} {N : Nat} {g h : SH} {a1 a2 a3 a4 a b1 b2 b3 b4 b : Value} (t : Two w0 w N g h a1 a2 a3 a4 a b1 b2 b3 b4 b) (hb : Below w.heap.size w w') : Two w0 w' N g h a1 a2 a3 a4 a b1 b2 b3 b4 b :=
  ⟨rangeAt_later t.r1 hb, rangeAt_later t.r2 hb, t.low.trans (hb.mono t.low.size)⟩
theorem Two.start (w : World) (g h : SH) (a1 a2 a3 a4 a b1 b2 b3 b4 b : Value) (s t : TypeId) : Two w ((w.alloc (.cells (sarr g a1 a2 a3 a4 a) s)).alloc (.cells (sarr h b1 b2 b3 b4 b) t)) w.heap.size g h a1 a2 a3 a4 a b1 b2 b3 b4 b := by
  have e : ∀ (v : World) (o : Obj), (v.alloc o).heap = v.heap.push o := fun _ _ => rfl
  have q0 : ((w.alloc (.cells (sarr g a1 a2 a3 a4 a) s)).alloc (.cells (sarr h b1 b2 b3 b4 b) t)).heap[w.heap.size]? = some (.cells (sarr g a1 a2 a3 a4 a) s) := by rw [Below.heap_alloc _ _ _ (by simp), e]; simp
  have q1 : ((w.alloc (.cells (sarr g a1 a2 a3 a4 a) s)).alloc (.cells (sarr h b1 b2 b3 b4 b) t)).heap[(w.alloc (.cells (sarr g a1 a2 a3 a4 a) s)).heap.size]? = some (.cells (sarr h b1 b2 b3 b4 b) t) := (fun (v : World) (o : Obj) => (by rw [e]; simp : (v.alloc o).heap[v.heap.size]? = some o)) _ _
  have q2 : (w.alloc (.cells (sarr g a1 a2 a3 a4 a) s)).heap.size = w.heap.size + 1 := by simp
  rw [q2] at q1
  exact ⟨blk_range q0, blk_range q1, (alloc_below w _).alloc (by simp) _⟩
theorem HV.drew {w : World} {lo : Nat} {h : SH} {v1 v2 v3 v4 : Value} (hv : HV w lo h v1 v2 v3 v4) : HV w.drew lo h v1 v2 v3 v4 := ⟨hv.e1.drew, hv.e2.drew, hv.e3.drew, hv.e4.drew⟩
end Go.Proofs.YtkilmefpaojkfaaDoor
/-
  The contracts of toExp, toExpS: a copy in memory of its own.
-/
namespace Go.Proofs.YtkilmefpaojkfaaDoor
open Go.RowKit Go.Lib
set_option linter.unusedSimpArgs false
set_option linter.unusedVariables false

theorem sizeIE : (Tryd.prog.info? 29).map (·.size) = some 4 := by kernel_rfl
theorem sizeLE : (Tryd.prog.info? 24).map (·.size) = some 4 := by kernel_rfl
theorem blk4 {w : World} {b : Nat} {x y z u : Value} {t : TypeId} (h : w.heap[b]? = some (.cells #[x, y, z, u] t (0, 0))) :
    (w.cell? ⟨b, 0, Option.none⟩ = some x ∧ w.cell? ⟨b, 1, Option.none⟩ = some y ∧ w.cell? ⟨b, 2, Option.none⟩ = some z ∧ w.cell? ⟨b, 3, Option.none⟩ = some u) ∧ w.frozen? ⟨b, 0, Option.none⟩ = false ∧ w.frozen? ⟨b, 1, Option.none⟩ = false ∧ w.frozen? ⟨b, 2, Option.none⟩ = false ∧ w.frozen? ⟨b, 3, Option.none⟩ = false := by
  simp [World.cell?, World.frozen?, h]
theorem set5 {w w1 : World} {N : Nat} (hb : Below w.heap.size w w1) (hN : w.heap.size = N) (p x y z u : Value) : Below w.heap.size w (((((w1.setCell ⟨N + 2, 3, Option.none⟩ p).setCell ⟨N + 1, 0, Option.none⟩ x).setCell ⟨N + 1, 1, Option.none⟩ y).setCell ⟨N + 1, 2, Option.none⟩ z).setCell ⟨N + 1, 3, Option.none⟩ u) ∧
    Keeps (w.heap.size + 3) w1 (((((w1.setCell ⟨N + 2, 3, Option.none⟩ p).setCell ⟨N + 1, 0, Option.none⟩ x).setCell ⟨N + 1, 1, Option.none⟩ y).setCell ⟨N + 1, 2, Option.none⟩ z).setCell ⟨N + 1, 3, Option.none⟩ u) := by
  subst hN
  exact ⟨((((hb.setCell (p := ⟨w.heap.size + 2, 3, Option.none⟩) (by simp) _).setCell (p := ⟨w.heap.size + 1, 0, Option.none⟩) (by simp) _).setCell (p := ⟨w.heap.size + 1, 1, Option.none⟩) (by simp) _).setCell (p := ⟨w.heap.size + 1, 2, Option.none⟩) (by simp) _).setCell (p := ⟨w.heap.size + 1, 3, Option.none⟩) (by simp) _,
    ((((Keeps.set _ _ (by simp) _).trans (Keeps.set _ _ (by simp) _)).trans (Keeps.set _ _ (by simp) _)).trans (Keeps.set _ _ (by simp) _)).trans (Keeps.set _ _ (by simp) _)⟩
set_option maxHeartbeats 1000000 in
theorem toExp_of (x : X)
    (ih : ∀ (w : World) (v : Value), EV w 0 x.l v → Calls Tryd.prog 12 #[v] w fun e w' => ∃ v', e = .returned v' ∧ EV w' w.heap.size x.l v' ∧ Below w.heap.size w w')
    (w : World) (v : Value) (hv : EV w 0 x.l v) :
    Calls Tryd.prog 6 #[.agg #[.int .i64 x.h.k, .int .i64 x.h.n, .string x.h.s, v]] w fun e w' => ∃ v', e = .returned (.agg #[.int .i64 x.h.k, .int .i64 x.h.n, .string x.h.s, v']) ∧ EV w' w.heap.size x.l v' ∧ Below w.heap.size w w' := by
  have Hih := Lib.hid ih
  clear ih
  obtain ⟨a, c, rfl⟩ := hv.shape
  have Hv := Lib.hid hv
  clear hv
  go_enter Tryd.func6, Tryd.ntmps6
  go_wp2_with fail
  have hb3 := ((alloc_below w (.cells #[.int .i64 x.h.k, .int .i64 x.h.n, .string x.h.s, .slice a (elen x.l) c] 24)).alloc (by simp) (.cells #[.int .i64 0, .int .i64 0, .string ⟨#[]⟩, .slice Option.none 0 0] 29)).alloc (by simp; omega) (.cells #[.int .i64 x.h.k, .int .i64 x.h.n, .string x.h.s, .slice Option.none 0 0] 29)
  obtain ⟨_, q1, q2⟩ := heap3 w (.cells #[.int .i64 x.h.k, .int .i64 x.h.n, .string x.h.s, .slice a (elen x.l) c] 24) (.cells #[.int .i64 0, .int .i64 0, .string ⟨#[]⟩, .slice Option.none 0 0] 29) (.cells #[.int .i64 x.h.k, .int .i64 x.h.n, .string x.h.s, .slice Option.none 0 0] 29)
  refine (Hih.out _ _ (Hv.out.later hb3)).mono ?_
  rintro e w1 ⟨v', rfl, hv', hb1⟩
  obtain ⟨a', c', rfl⟩ := hv'.shape
  have r1 := (hb1.block _ (by simp)).trans q1
  have r2 := (hb1.block _ (by simp)).trans q2
  have hb := hb3.trans (hb1.mono hb3.size)
  obtain ⟨⟨c0, c1, c2, c3⟩, f0, f1, f2, f3⟩ := blk4 r1
  obtain ⟨⟨d0, d1, d2, d3⟩, g0, g1, g2, g3⟩ := blk4 r2
  have Hv' := Lib.hid hv'
  have Hb := Lib.hid hb
  clear hb1 hb3 hv' q1 q2 r1 r2 hb
  go_wp2
  obtain ⟨hB, hK⟩ := set5 Hb.out rfl (.slice a' (elen x.l) c') (.int .i64 x.h.k) (.int .i64 x.h.n) (.string x.h.s) (.slice a' (elen x.l) c')
  refine bodyPost_ret (v := .agg #[.int .i64 x.h.k, .int .i64 x.h.n, .string x.h.s, .slice a' (elen x.l) c']) (by simp [results, Tryd.results6, go_sem, c0, c1, c2, c3]) rfl ⟨_, rfl, (Hv'.out.same (lo' := w.heap.size) (by simp; omega) (fun a v hl hc => hK a v (by simpa using hl) hc)), hB⟩
theorem infoIE : (Tryd.prog.info? 29).map (fun i => (i.zero, i.size, i.bytes)) = some (some (.agg #[.int .i64 0, .int .i64 0, .string ⟨#[]⟩, .slice Option.none 0 0]), 4, 56) := by kernel_rfl
/-- One more expression behind those that are laid. -/
theorem ERow.next {w w' : World} {lo g : Nat} {P : EF} {xs : List Value} {h : EH} {l : EF} {v : Value} (p q : Nat) (hP : ERow w lo P xs) (hk : Keeps lo w w') (hv : EV w' lo l v) (hr : w'.rangeAt g 0 xs) (h4 : w'.rangeAt g (elen P * 4) [.int .i64 h.k, .int .i64 h.n, .string h.s, v]) :
    ERow w' lo (eapp P (.node p q h l .nil)) (xs ++ [.int .i64 h.k, .int .i64 h.n, .string h.s, v]) ∧ w'.rangeAt g 0 (xs ++ [.int .i64 h.k, .int .i64 h.n, .string h.s, v]) :=
  ⟨(ERow.same (Nat.le_refl _) hk hP).app (ERow.one hv), rangeAt_app hr (by rw [hP.length, Nat.zero_add]; exact h4)⟩
theorem all4 (k n : Int) (t : ByteArray) (a : Option Addr) (l c : Nat) : (#[.int .i64 k, .int .i64 n, .string t, .slice a l c] : Array Value).all (·.oneCell') = true :=
  all_oneCell_toArray (cs := [.int .i64 k, .int .i64 n, .string t, .slice a l c]) (fun v hv => by
    simp only [List.mem_cons, List.not_mem_nil, or_false] at hv
    rcases hv with rfl | rfl | rfl | rfl <;> rfl)
set_option maxHeartbeats 400000 in
theorem toExpS_step (F : EF) (hF : esize F ≤ 1048576)
    (ih : ∀ l : EF, enodes l < enodes F → esize l ≤ 1048576 → ∀ (w : World) (v : Value), EV w 0 l v → Calls Tryd.prog 12 #[v] w fun e w' => ∃ v', e = .returned v' ∧ EV w' w.heap.size l v' ∧ Below w.heap.size w w')
    (w : World) (v : Value) (hv : EV w 0 F v) :
    Calls Tryd.prog 12 #[v] w fun e w' => ∃ v', e = .returned v' ∧ EV w' w.heap.size F v' ∧ Below w.heap.size w w' := by
  have hn : elen F ≤ 1048576 := Nat.le_trans (Nat.le_trans (elen_le F) (enodes_le F)) hF
  obtain ⟨b, o, ao, cap, rfl, hao, _, hin⟩ := hv
  obtain ⟨i0, hi, hz0, hz1, hz2⟩ := info_parts infoIE
  have Hih := Lib.hid ih
  clear ih
  go_enter Tryd.func12, Tryd.ntmps12
  go_wp2_with (refine wpList_make_full _ rfl _ _ 27 rfl w.heap.size 29 i0 _ 4 Tryd.underlying27 hi hz0 hz1 .i64 .i64 _ _ (elen F) rfl rfl rfl rfl ?c1 ?c2 ?c3 ?_)
  case c1 => rw [hz2]; omega
  case c2 => unfold maxLen; omega
  case c3 => exact Nat.le_refl _
  intro w1 hown hgrow
  obtain ⟨cur, hcur, _, hcs, _⟩ := own_block hown
  have hbw : Below w.heap.size w w1 := (Below.refl _ w).grown hgrow (Nat.le_refl _) (fun k hk => by cases hk)
  have Hth : Hid (w1.there w.heap.size 0 (elen F * 4)) := blk_there hcur (by omega)
  have hsz : w.heap.size < w1.heap.size := (Array.getElem?_eq_some_iff.1 hcur).1
  clear hown hgrow hcur hcs
  go_wp2
  go_loopw [4] (fun i wr => ∃ (P R : EF) (xs : List Value), i = .int .i64 (elen P : Int) ∧ Hid (eapp P R = F ∧ enodes R ≤ enodes F ∧ esize R ≤ 1048576) ∧ EIn w 0 R b (o + elen P * 4) ∧ Hid (wr.there w.heap.size 0 (elen F * 4) ∧ ERow wr (w.heap.size + 1) P xs ∧ wr.rangeAt w.heap.size 0 xs ∧ w.heap.size < wr.heap.size) ∧ Below w.heap.size w wr) (fun i _ => elen F - (RowKit.intOf i).toNat)
  case atStart => exact ⟨.nil, F, [], rfl, ⟨rfl, Nat.le_refl _, hF⟩, by simpa [elen] using hin, ⟨Hth.out, rfl, (fun j v hv => by simp at hv), hsz⟩, hbw⟩
  case round =>
    obtain ⟨P, R, xs, rfl, hr, hinR, hm, hbr⟩ := hrel
    obtain ⟨e1, e2, e3⟩ := hr.out
    have eL := congrArg elen e1
    rw [elen_app] at eL
    cases R with
    | nil =>
      have hk : ¬ (elen P : Int) < (elen F : Int) := by simp only [elen] at eL; omega
      rw [eapp_nil] at e1
      subst e1
      go_wp2
      go_ret
      exact ⟨_, rfl, EV.laid hm.out.2.1 hm.out.2.2.1 _ (by omega), hbr⟩
    | node p q h l r =>
      have hlt : (elen P : Int) < (elen F : Int) := by simp only [elen] at eL; omega
      rcases hao with rfl | hnil
      · obtain ⟨⟨a0, a1, a2, u, a3, hu⟩, hinr⟩ := EIn_node.1 (EIn_later hbr _ _ _ hinR)
        have hinr0 := (EIn_node.1 hinR).2
        simp only [enodes] at e2
        simp only [esize] at e3
        have Hl := Lib.hid (fun w v => Hih.out l (by omega) (by omega) w v)
        have He : Hid (eapp (eapp P (.node p q h l .nil)) r = F ∧ enodes r ≤ enodes F ∧ esize r ≤ 1048576) := ⟨by rw [eapp_snoc]; exact e1, by omega, by omega⟩
        have HeL : Hid (elen P + (elen r + 1) = elen F) := eL
        clear hr hinR e1 e2 e3 hinr hin eL
        go_wp2_with fail
        refine (toExp_of ⟨h, l⟩ Hl.out _ u hu).mono ?_
        rintro e w2 ⟨v', rfl, hv', hb2⟩
        obtain ⟨t1, t2, t3, t4⟩ := hm.out
        have t1' := there_later t1 hb2
        have hbw2 := hbr.trans (hb2.mono hbr.size)
        have ht4 : w2.there w.heap.size (elen P * 4) 4 := by have := there_part t1' (elen P * 4) 4 (by have := HeL.out; omega); rwa [Nat.zero_add] at this
        obtain ⟨a', c', rfl⟩ := hv'.shape
        clear a0 a1 a2 a3
        go_wp2_with (refine wpList_store_mid rfl 29 _ _ rfl _ _ _ rfl rfl ?ht sizeIE (all4 _ _ _ _ _ _) ?_)
        case ht => exact ht4
        have hks : Keeps (w.heap.size + 1) w2 (w2.setCells w.heap.size (elen P * 4) [.int .i64 h.k, .int .i64 h.n, .string h.s, .slice a' (elen l) c']) := Keeps.sets _ (by omega) _ _
        obtain ⟨n1, n2⟩ := ERow.next p q t2 ((Keeps.later hb2).trans hks) ((hv'.lower t4).same (Nat.le_refl _) hks) (World.rangeAt_setCells_apart (rangeAt_later t3 hb2) w.heap.size (elen P * 4) [.int .i64 h.k, .int .i64 h.n, .string h.s, .slice a' (elen l) c'] (.inr (.inl (by rw [t2.length]; omega)))) (World.rangeAt_setCells_same _ _ _ _ ht4)
        have n3 := World.there_setCells t1' w.heap.size (elen P * 4) [.int .i64 h.k, .int .i64 h.n, .string h.s, .slice a' (elen l) c']
        have n4 := below_sets [.int .i64 h.k, .int .i64 h.n, .string h.s, .slice a' (elen l) c'] (elen P * 4) hbw2 (Nat.le_refl _)
        have n5 : w.heap.size < (w2.setCells w.heap.size (elen P * 4) [.int .i64 h.k, .int .i64 h.n, .string h.s, .slice a' (elen l) c']).heap.size := by rw [size_sets]; exact Nat.lt_of_lt_of_le t4 hb2.size
        have hlen : elen (eapp P (.node p q h l .nil)) = elen P + 1 := by rw [elen_app]; rfl
        have N := Lib.hid (And.intro n1 (And.intro n2 (And.intro n3 (And.intro n5 hlen))))
        clear t1 t2 t3 t1' ht4 hv' hb2 hbw2 hks n1 n2 n3 n5 hlen hm hbr
        go_wp2
        go_roundw
        case rel =>
          obtain ⟨n1, n2, n3, n5, hlen⟩ := N.out
          exact ⟨eapp P (.node p q h l .nil), r, _, by rw [hlen]; go_num, He.out, by rw [hlen, show o + (elen P + 1) * 4 = o + elen P * 4 + 4 by omega]; exact hinr0, ⟨n3, n1, n2, n5⟩, n4⟩
        case measure => simp [RowKit.intOf]; omega
      · subst hnil; simp only [elen] at eL; omega
theorem toExpS_all : ∀ (n : Nat) (F : EF), enodes F < n → esize F ≤ 1048576 → ∀ (w : World) (v : Value), EV w 0 F v → Calls Tryd.prog 12 #[v] w fun e w' => ∃ v', e = .returned v' ∧ EV w' w.heap.size F v' ∧ Below w.heap.size w w'
  | 0, _, h, _, _, _, _ => absurd h (by omega)
  | n + 1, F, h, hF, w, v, hv => toExpS_step F hF (fun l hl hk w v a => toExpS_all n l (by omega) hk w v a) w v hv
theorem toExpS_is (F : EF) (hF : esize F ≤ 1048576) (w : World) (v : Value) (hv : EV w 0 F v) :
    Calls Tryd.prog 12 #[v] w fun e w' => ∃ v', e = .returned v' ∧ EV w' w.heap.size F v' ∧ Below w.heap.size w w' := toExpS_all _ F (Nat.lt_succ_self _) hF w v hv
theorem toExp_is (x : X) (hx : xsize x ≤ 1048576) (w : World) (v : Value) (hv : EV w 0 x.l v) :
    Calls Tryd.prog 6 #[.agg #[.int .i64 x.h.k, .int .i64 x.h.n, .string x.h.s, v]] w fun e w' => ∃ v', e = .returned (.agg #[.int .i64 x.h.k, .int .i64 x.h.n, .string x.h.s, v']) ∧ EV w' w.heap.size x.l v' ∧ Below w.heap.size w w' :=
  toExp_of x (fun w v a => toExpS_is x.l (by unfold xsize at hx; omega) w v a) w v hv
end Go.Proofs.YtkilmefpaojkfaaDoor
/-
  The contracts of toStmt, toStmtS: a copy in memory of its own.
-/
namespace Go.Proofs.YtkilmefpaojkfaaDoor
open Go.RowKit Go.Lib
set_option linter.unusedSimpArgs false
set_option linter.unusedVariables false

abbrev zero19 : Array Value := #[.int .i64 0, .string ⟨#[]⟩, .int .i64 0, .int .i64 0, .string ⟨#[]⟩, .slice Option.none 0 0, .int .i64 0, .int .i64 0, .string ⟨#[]⟩, .slice Option.none 0 0, .int .i64 0, .int .i64 0, .string ⟨#[]⟩, .slice Option.none 0 0, .int .i64 0, .int .i64 0, .string ⟨#[]⟩, .slice Option.none 0 0, .slice Option.none 0 0]
abbrev out19 (h : SH) : Array Value := #[.int .i64 h.k, .string h.s, .int .i64 0, .int .i64 0, .string ⟨#[]⟩, .slice Option.none 0 0, .int .i64 0, .int .i64 0, .string ⟨#[]⟩, .slice Option.none 0 0, .int .i64 0, .int .i64 0, .string ⟨#[]⟩, .slice Option.none 0 0, .int .i64 0, .int .i64 0, .string ⟨#[]⟩, .slice Option.none 0 0, .slice Option.none 0 0]
theorem oneX (x : X) (v : Value) (hv : v.oneCell' = true) : (xcells x v).toArray.all (·.oneCell') = true :=
  all_oneCell_toArray (fun u hu => by
    simp only [xcells, List.mem_cons, List.not_mem_nil, or_false] at hu
    rcases hu with rfl | rfl | rfl | rfl <;> first | rfl | exact hv)
theorem oneS (h : SH) (v1 v2 v3 v4 v : Value) (e1 : v1.oneCell' = true) (e2 : v2.oneCell' = true) (e3 : v3.oneCell' = true) (e4 : v4.oneCell' = true) (e5 : v.oneCell' = true) : (scells h v1 v2 v3 v4 v).toArray.all (·.oneCell') = true :=
  all_oneCell_toArray (fun u hu => by
    simp only [scells, xcells, List.mem_cons, List.mem_append, List.not_mem_nil, or_false] at hu
    rcases hu with rfl | rfl | (rfl | rfl | rfl | rfl) | (rfl | rfl | rfl | rfl) | (rfl | rfl | rfl | rfl) | (rfl | rfl | rfl | rfl) | rfl <;> first | rfl | assumption)
theorem sc19 (h : SH) (v1 v2 v3 v4 v : Value) : (sarr h v1 v2 v3 v4 v).toList = scells h v1 v2 v3 v4 v := rfl
/-- The five ranges of a statement that is laid bit by bit. -/
theorem join19 {w : World} {g : Nat} {h : SH} {v1 v2 v3 v4 v : Value} (r0 : w.rangeAt g 0 [.int .i64 h.k, .string h.s]) (r1 : w.rangeAt g 2 (xcells h.x1 v1)) (r2 : w.rangeAt g 6 (xcells h.x2 v2)) (r3 : w.rangeAt g 10 (xcells h.x3 v3)) (r4 : w.rangeAt g 14 (xcells h.x4 v4)) (r5 : w.rangeAt g 18 [v]) :
    w.rangeAt g 0 (scells h v1 v2 v3 v4 v) :=
  rangeAt_app (cs := [.int .i64 h.k, .string h.s]) r0 (rangeAt_app r1 (rangeAt_app r2 (rangeAt_app r3 (rangeAt_app r4 r5))))
/-- What a statement's copy knows at each of its steps: what came in at N, the place of the answer at N + 1, the copy at N + 2. -/
structure Mid (w0 : World) (N : Nat) (h : SH) (l : SF) (v1 v2 v3 v4 v : Value) (w : World) : Prop where
  src : w.rangeAt N 0 (scells h v1 v2 v3 v4 v)
  th1 : w.there (N + 1) 0 19
  th2 : w.there (N + 2) 0 19
  top : w.rangeAt (N + 2) 0 [.int .i64 h.k, .string h.s]
  low : Below w0.heap.size w0 w
  size : N + 3 ≤ w.heap.size
  n0 : w0.heap.size = N
theorem Mid.later {w0 w w' : World} {N : Nat} {h : SH} {l : SF} {v1 v2 v3 v4 v : Value} (m : Mid w0 N h l v1 v2 v3 v4 v w) (hb : Below w.heap.size w w') : Mid w0 N h l v1 v2 v3 v4 v w' :=
  ⟨rangeAt_later m.src hb, there_later m.th1 hb, there_later m.th2 hb, rangeAt_later m.top hb, m.low.trans (hb.mono m.low.size), Nat.le_trans m.size hb.size, m.n0⟩
theorem Mid.sets {w0 w : World} {N : Nat} {h : SH} {l : SF} {v1 v2 v3 v4 v : Value} (m : Mid w0 N h l v1 v2 v3 v4 v w) (o : Nat) (ho : 2 ≤ o) (vs : List Value) : Mid w0 N h l v1 v2 v3 v4 v (w.setCells (N + 2) o vs) :=
  ⟨World.rangeAt_setCells_apart m.src _ _ _ (.inl (by omega)), World.there_setCells m.th1 _ _ _, World.there_setCells m.th2 _ _ _, World.rangeAt_setCells_apart m.top _ _ _ (.inr (.inl (by simpa using ho))), below_sets _ _ m.low (by have := m.n0; omega), by rw [size_sets]; exact m.size, m.n0⟩
theorem Mid.x1 {w0 w : World} {N : Nat} {h : SH} {l : SF} {v1 v2 v3 v4 v : Value} (m : Mid w0 N h l v1 v2 v3 v4 v w) : w.rangeAt N 2 (xcells h.x1 v1) := by
  have := rangeAt_part (ds := [.int .i64 h.k, .string h.s]) (es := xcells h.x1 v1) m.src rfl; rwa [Nat.zero_add] at this
theorem Mid.x2 {w0 w : World} {N : Nat} {h : SH} {l : SF} {v1 v2 v3 v4 v : Value} (m : Mid w0 N h l v1 v2 v3 v4 v w) : w.rangeAt N 6 (xcells h.x2 v2) := by
  have := rangeAt_part (ds := [.int .i64 h.k, .string h.s] ++ xcells h.x1 v1) (es := xcells h.x2 v2) m.src rfl; rwa [Nat.zero_add] at this
theorem Mid.x3 {w0 w : World} {N : Nat} {h : SH} {l : SF} {v1 v2 v3 v4 v : Value} (m : Mid w0 N h l v1 v2 v3 v4 v w) : w.rangeAt N 10 (xcells h.x3 v3) := by
  have := rangeAt_part (ds := [.int .i64 h.k, .string h.s] ++ xcells h.x1 v1 ++ xcells h.x2 v2) (es := xcells h.x3 v3) m.src rfl; rwa [Nat.zero_add] at this
theorem Mid.x4 {w0 w : World} {N : Nat} {h : SH} {l : SF} {v1 v2 v3 v4 v : Value} (m : Mid w0 N h l v1 v2 v3 v4 v w) : w.rangeAt N 14 (xcells h.x4 v4) := by
  have := rangeAt_part (ds := [.int .i64 h.k, .string h.s] ++ xcells h.x1 v1 ++ xcells h.x2 v2 ++ xcells h.x3 v3) (es := xcells h.x4 v4) m.src rfl; rwa [Nat.zero_add] at this
theorem Mid.vb {w0 w : World} {N : Nat} {h : SH} {l : SF} {v1 v2 v3 v4 v : Value} (m : Mid w0 N h l v1 v2 v3 v4 v w) : w.cell? ⟨N, 18, Option.none⟩ = some v := by
  have := m.src 18 v rfl; rwa [Nat.zero_add] at this
theorem Mid.there4 {w0 w : World} {N : Nat} {h : SH} {l : SF} {v1 v2 v3 v4 v : Value} (m : Mid w0 N h l v1 v2 v3 v4 v w) (o : Nat) (ho : o + 4 ≤ 19) : w.there (N + 2) o 4 := by
  have := there_part m.th2 o 4 ho; rwa [Nat.zero_add] at this
theorem Mid.cell18 {w0 w : World} {N : Nat} {h : SH} {l : SF} {v1 v2 v3 v4 v : Value} (m : Mid w0 N h l v1 v2 v3 v4 v w) : (∃ u, w.cell? ⟨N + 2, 18, Option.none⟩ = some u) ∧ w.frozen? ⟨N + 2, 18, Option.none⟩ = false := by
  have := m.th2 18 (by omega); rw [Nat.zero_add] at this
  exact ⟨Option.isSome_iff_exists.1 this.1, this.2⟩
/-- A part that is laid: its four cells, and what stands under it. -/
structure Got (w : World) (N o : Nat) (x : X) (u : Value) : Prop where
  rg : w.rangeAt (N + 2) o (xcells x u)
  ev : EV w (N + 3) x.l u
theorem Got.later {w w' : World} {N o : Nat} {x : X} {u : Value} (g : Got w N o x u) (hb : Below w.heap.size w w') : Got w' N o x u := ⟨rangeAt_later g.rg hb, g.ev.later hb⟩
theorem Got.sets {w W : World} {N o o' : Nat} {x : X} {u : Value} {vs : List Value} (g : Got w N o x u) (ho : o + 4 ≤ o') (hW : w.setCells (N + 2) o' vs = W) : Got W N o x u := by
  subst hW
  exact ⟨World.rangeAt_setCells_apart g.rg _ _ _ (.inr (.inl ho)), g.ev.same (Nat.le_refl _) (Keeps.sets _ (by omega) _ _)⟩
theorem Got.new {w W : World} {N o lo : Nat} {x : X} {u : Value} (ht : w.there (N + 2) o 4) (hu : EV w lo x.l u) (hlo : N + 3 ≤ lo) (hW : w.setCells (N + 2) o (xcells x u) = W) : Got W N o x u := by
  subst hW
  exact ⟨World.rangeAt_setCells_same _ _ _ _ ht, (hu.lower hlo).same (Nat.le_refl _) (Keeps.sets _ (by omega) _ _)⟩
theorem Mid.at {w0 w W : World} {N : Nat} {h : SH} {l : SF} {v1 v2 v3 v4 v : Value} {vs : List Value} (m : Mid w0 N h l v1 v2 v3 v4 v w) (o : Nat) (ho : 2 ≤ o) (hW : w.setCells (N + 2) o vs = W) : Mid w0 N h l v1 v2 v3 v4 v W := by subst hW; exact m.sets o ho vs
theorem store_abs {P : Program} {ops : Array Oper} {rest : List Oper} {op : Oper} {a : Act} {w : World} {Q : Exit → Act → World → Prop} (hgd : op.guard = none) (ty : TypeId) (x y : Operand) (ho : op.op = .store ty x y)
    (b o : Nat) (cells : Array Value) (hx : a.eval x = .pointer (some ⟨b, o, none⟩)) (hy : a.eval y = .agg cells)
    (ht : w.there b o cells.size) (hi : (P.info? ty).map (·.size) = some cells.size) (h1 : cells.all (·.oneCell') = true)
    (h : ∀ W, w.setCells b o cells.toList = W → wpList P ops Q rest (a.put op.dst undef) W) : wpList P ops Q (op :: rest) a w := wpList_store_mid hgd ty x y ho b o cells hx hy ht hi h1 (h _ rfl)
/-- One more statement behind those that are laid. -/
theorem SRow.next {w w' : World} {lo g : Nat} {P : SF} {xs : List Value} {h : SH} {l : SF} {v1 v2 v3 v4 v : Value} (p q : Nat) (hP : SRow w lo P xs) (hk : Keeps lo w w') (h1 : HV w' lo h v1 v2 v3 v4) (hv : SV w' lo l v) (hr : w'.rangeAt g 0 xs) (h4 : w'.rangeAt g (slen P * 19) (scells h v1 v2 v3 v4 v)) :
    SRow w' lo (sapp P (.node p q h l .nil)) (xs ++ scells h v1 v2 v3 v4 v) ∧ w'.rangeAt g 0 (xs ++ scells h v1 v2 v3 v4 v) :=
  ⟨(SRow.same (Nat.le_refl _) hk hP).app (SRow.one h1.e1 h1.e2 h1.e3 h1.e4 hv), rangeAt_app hr (by rw [hP.length, Nat.zero_add]; exact h4)⟩
theorem HV.lower {w : World} {lo lo' : Nat} {h : SH} {v1 v2 v3 v4 : Value} (hv : HV w lo h v1 v2 v3 v4) (hlo : lo' ≤ lo) : HV w lo' h v1 v2 v3 v4 := ⟨hv.e1.lower hlo, hv.e2.lower hlo, hv.e3.lower hlo, hv.e4.lower hlo⟩
theorem HV.same {w w' : World} {lo lo' : Nat} {h : SH} {v1 v2 v3 v4 : Value} (hv : HV w lo h v1 v2 v3 v4) (hlo : lo' ≤ lo) (hs : Keeps lo w w') : HV w' lo' h v1 v2 v3 v4 := ⟨hv.e1.same hlo hs, hv.e2.same hlo hs, hv.e3.same hlo hs, hv.e4.same hlo hs⟩
end Go.Proofs.YtkilmefpaojkfaaDoor
/-
  What stands under a statement, under an expression; small laws on memory.
-/
namespace Go.Proofs.YtkilmefpaojkfaaDoor
open Go.RowKit Go.Lib
set_option linter.unusedSimpArgs false
set_option linter.unusedVariables false

theorem retI {a b : Int} {R : Prop} (h : a = b) (r : R) : Ending.returned (.int .i64 a) = .returned (.int .i64 b) ∧ R := by subst h; exact ⟨rfl, r⟩
theorem str_ne {s t : ByteArray} (h : ¬ s = t) : (s.toList == t.toList) = false := by
  rw [ByteArray.toList_eq, ByteArray.toList_eq, beq_eq_false_iff_ne]
  intro e
  exact h (ByteArray.ext (Array.toList_inj.1 e))
theorem int_ne {a b : Int} (h : ¬ a = b) : (a == b) = false := by rw [beq_eq_false_iff_ne]; exact h
theorem retB {a b : Bool} {R : Prop} (h : b = a) (r : R) : Ending.returned (.bool a) = .returned (.bool b) ∧ R := by subst h; exact ⟨rfl, r⟩
/-- Two blocks that were just laid. -/
theorem two_blk (w : World) (a b : Array Value) (s t : TypeId) : ((w.alloc (.cells a s)).alloc (.cells b t)).rangeAt w.heap.size 0 a.toList ∧ ((w.alloc (.cells a s)).alloc (.cells b t)).rangeAt (w.heap.size + 1) 0 b.toList ∧ Below w.heap.size w ((w.alloc (.cells a s)).alloc (.cells b t)) := by
  have e : ∀ (v : World) (o : Obj), (v.alloc o).heap = v.heap.push o := fun _ _ => rfl
  have q0 : ((w.alloc (.cells a s)).alloc (.cells b t)).heap[w.heap.size]? = some (.cells a s) := by rw [Below.heap_alloc _ _ _ (by simp), e]; simp
  have q1 : ((w.alloc (.cells a s)).alloc (.cells b t)).heap[(w.alloc (.cells a s)).heap.size]? = some (.cells b t) := (fun (v : World) (o : Obj) => (by rw [e]; simp : (v.alloc o).heap[v.heap.size]? = some o)) _ _
  have q2 : (w.alloc (.cells a s)).heap.size = w.heap.size + 1 := by simp
  rw [q2] at q1
  exact ⟨blk_range q0, blk_range q1, (alloc_below w _).alloc (by simp) _⟩
theorem x_range {w : World} {b o : Nat} {x : X} {v : Value} (a0 : w.cell? ⟨b, o, Option.none⟩ = some (.int .i64 x.h.k)) (a1 : w.cell? ⟨b, o + 1, Option.none⟩ = some (.int .i64 x.h.n)) (a2 : w.cell? ⟨b, o + 2, Option.none⟩ = some (.string x.h.s)) (a3 : w.cell? ⟨b, o + 3, Option.none⟩ = some v) : w.rangeAt b o (xcells x v) := fun j u hj => by
  match j, hj with
  | 0, hj => cases hj; exact a0
  | 1, hj => cases hj; exact a1
  | 2, hj => cases hj; exact a2
  | 3, hj => cases hj; exact a3
  | j + 4, hj => simp [xcells] at hj
set_option maxRecDepth 100000 in
theorem partsOf_is (x : X) (v : Value) (w : World) : Calls Tryd.prog 21 #[.agg (xcells x v).toArray] w fun e w' => e = .returned v ∧ Below w.heap.size w w' := by
  show Calls Tryd.prog 21 #[.agg #[.int .i64 x.h.k, .int .i64 x.h.n, .string x.h.s, v]] w _
  go_enter Tryd.func21, Tryd.ntmps21
  go_wp2
  go_ret
  exact ⟨rfl, alloc_below _ _⟩
theorem EV.laid0 {w : World} {g : Nat} {F : EF} {xs : List Value} (h : ERow w 0 F xs) (hr : w.rangeAt g 0 xs) (c : Nat) : EV w 0 F (.slice (some ⟨g, 0, Option.none⟩) (elen F) c) :=
  ⟨g, 0, _, c, rfl, .inl rfl, Nat.zero_le _, ERow.laid 0 h (by simpa [World.rangeAt] using hr)⟩
theorem SV.laid0 {w : World} {g : Nat} {F : SF} {xs : List Value} (h : SRow w 0 F xs) (hr : w.rangeAt g 0 xs) (c : Nat) : SV w 0 F (.slice (some ⟨g, 0, Option.none⟩) (slen F) c) :=
  ⟨g, 0, _, c, rfl, .inl rfl, Nat.zero_le _, SRow.laid 0 h (by simpa [World.rangeAt] using hr)⟩
end Go.Proofs.YtkilmefpaojkfaaDoor
