/-
  What it is that two expressions are the same; the contract of the specification's SameExp.
-/
import Derived.Test.YtlepidbgebfglaaAstEqS
namespace Go.Proofs.Ytlepidbgebfglaa
open Go.RowKit Go.Lib
set_option linter.unusedSimpArgs false
set_option linter.unusedVariables false

def hsame (a b : EH) : Bool := decide (a.k = b.k) && decide (a.n = b.n) && decide (a.s = b.s)
def esame : EF → EF → Bool
  | .nil, .nil => true
  | .node _ _ h l r, .node _ _ h' l' r' => hsame h h' && (esame l l' && esame r r')
  | _, _ => false
def xsame (a b : X) : Bool := hsame a.h b.h && esame a.l b.l
theorem esame_len : ∀ F G : EF, esame F G = true → elen F = elen G
  | .nil, .nil, _ => rfl
  | .node _ _ h l r, .node _ _ h' l' r', e => by
    simp only [esame, Bool.and_eq_true] at e
    have := esame_len r r' e.2.2
    simp only [elen]; omega
  | .nil, .node _ _ _ _ _, e => by simp [esame] at e
  | .node _ _ _ _ _, .nil, e => by simp [esame] at e
theorem esame_node (p q p' q' : Nat) (h h' : EH) (l r l' r' : EF) : esame (.node p q h l r) (.node p' q' h' l' r') = (xsame ⟨h, l⟩ ⟨h', l'⟩ && esame r r') := by simp only [esame, xsame, Bool.and_assoc]
theorem str_ne {s t : ByteArray} (h : ¬ s = t) : (s.toList == t.toList) = false := by
  rw [ByteArray.toList_eq, ByteArray.toList_eq, beq_eq_false_iff_ne]
  intro e
  exact h (ByteArray.ext (Array.toList_inj.1 e))
theorem int_ne {a b : Int} (h : ¬ a = b) : (a == b) = false := by rw [beq_eq_false_iff_ne]; exact h
theorem esame_diff {F G : EF} (h : ¬ elen F = elen G) : esame F G = false := by
  cases e : esame F G with
  | false => rfl
  | true => exact absurd (esame_len F G e) h
theorem retB {a b : Bool} {R : Prop} (h : b = a) (r : R) : Ending.returned (.bool a) = .returned (.bool b) ∧ R := by subst h; exact ⟨rfl, r⟩
/-- Two blocks that were just laid. -/
theorem two_blk (w : World) (a b : Array Value) (s t : TypeId) : ((w.alloc (.cells a s)).alloc (.cells b t)).rangeAt w.heap.size 0 a.toList ∧ ((w.alloc (.cells a s)).alloc (.cells b t)).rangeAt (w.heap.size + 1) 0 b.toList ∧ Below w.heap.size w ((w.alloc (.cells a s)).alloc (.cells b t)) := by
  have e : ∀ (v : World) (o : Obj), (v.alloc o).heap = v.heap.push o := fun _ _ => rfl
  have q0 : ((w.alloc (.cells a s)).alloc (.cells b t)).heap[w.heap.size]? = some (.cells a s) := by rw [Below.heap_alloc _ _ _ (by simp), e]; simp
  have q1 : ((w.alloc (.cells a s)).alloc (.cells b t)).heap[(w.alloc (.cells a s)).heap.size]? = some (.cells b t) := (fun (v : World) (o : Obj) => (by rw [e]; simp : (v.alloc o).heap[v.heap.size]? = some o)) _ _
  have q2 : (w.alloc (.cells a s)).heap.size = w.heap.size + 1 := by simp
  rw [q2] at q1
  exact ⟨blk_range q0, blk_range q1, (alloc_below w _).alloc (by simp) _⟩
theorem x_range {w : World} {b o : Nat} {x : X} {v : Value} (a0 : w.cell? ⟨b, o, Option.none⟩ = some (.int .i64 x.h.k)) (a1 : w.cell? ⟨b, o + 1, Option.none⟩ = some (.int .i64 x.h.n)) (a2 : w.cell? ⟨b, o + 2, Option.none⟩ = some (.string x.h.s)) (a3 : w.cell? ⟨b, o + 3, Option.none⟩ = some v) : w.rangeAt b o (xcells x v) := fun j u hj => by
  match j, hj with
  | 0, hj => cases hj; exact a0
  | 1, hj => cases hj; exact a1
  | 2, hj => cases hj; exact a2
  | 3, hj => cases hj; exact a3
  | j + 4, hj => simp [xcells] at hj
set_option maxHeartbeats 2000000 in
set_option maxRecDepth 100000 in
theorem spec_SameExp_step (x y : X) (hx : enodes x.l ≤ 10000000) (hy : enodes y.l ≤ 10000000)
    (ih : ∀ x' y' : X, enodes x'.l < enodes x.l → enodes y'.l ≤ 10000000 → ∀ (w : World) (va vb : Value), EV w 0 x'.l va → EV w 0 y'.l vb → Calls Try.prog 19 #[.agg (xcells x' va).toArray, .agg (xcells y' vb).toArray] w fun e w' => e = .returned (.bool (xsame x' y')) ∧ Below w.heap.size w w')
    (w : World) (va vb : Value) (ha : EV w 0 x.l va) (hb : EV w 0 y.l vb) :
    Calls Try.prog 19 #[.agg (xcells x va).toArray, .agg (xcells y vb).toArray] w fun e w' => e = .returned (.bool (xsame x y)) ∧ Below w.heap.size w w' := by
  obtain ⟨⟨xk, xn, xs⟩, xl⟩ := x
  obtain ⟨⟨yk, yn, ys⟩, yl⟩ := y
  show Calls Try.prog 19 #[.agg #[.int .i64 xk, .int .i64 xn, .string xs, va], .agg #[.int .i64 yk, .int .i64 yn, .string ys, vb]] w _
  obtain ⟨b1, o1, ao1, cap1, rfl, hao1, _, hin1⟩ := ha
  obtain ⟨b2, o2, ao2, cap2, rfl, hao2, _, hin2⟩ := hb
  have HB0 := two_blk w #[.int .i64 xk, .int .i64 xn, .string xs, .slice ao1 (elen xl) cap1] #[.int .i64 yk, .int .i64 yn, .string ys, .slice ao2 (elen yl) cap2] 26 26
  have HB := Lib.hid HB0
  clear HB0
  by_cases hk : xk = yk
  case neg =>
    have hf : Hid (xsame ⟨⟨xk, xn, xs⟩, xl⟩ ⟨⟨yk, yn, ys⟩, yl⟩ = false) := show xsame _ _ = false by simp [xsame, hsame, hk]
    have h1 := int_ne hk
    clear ih
    go_enter Try.func19, Try.ntmps19
    go_wp2
    go_ret
    exact retB hf.out HB.out.2.2
  by_cases hn : xn = yn
  case neg =>
    have hf : Hid (xsame ⟨⟨xk, xn, xs⟩, xl⟩ ⟨⟨yk, yn, ys⟩, yl⟩ = false) := show xsame _ _ = false by simp [xsame, hsame, hn]
    have h1 := int_ne hn
    subst hk
    clear ih
    go_enter Try.func19, Try.ntmps19
    go_wp2
    go_ret
    exact retB hf.out HB.out.2.2
  by_cases hs : xs = ys
  case neg =>
    have hf : Hid (xsame ⟨⟨xk, xn, xs⟩, xl⟩ ⟨⟨yk, yn, ys⟩, yl⟩ = false) := show xsame _ _ = false by simp [xsame, hsame, hs]
    have h1 := str_ne hs
    subst hk
    subst hn
    clear ih
    go_enter Try.func19, Try.ntmps19
    go_wp2
    go_ret
    exact retB hf.out HB.out.2.2
  subst hk
  subst hn
  subst hs
  by_cases hL : elen xl = elen yl
  case neg =>
    have hf : Hid (xsame ⟨⟨xk, xn, xs⟩, xl⟩ ⟨⟨xk, xn, xs⟩, yl⟩ = false) := show xsame _ _ = false by simp [xsame, esame_diff hL]
    have h1 : ((elen xl : Int) == (elen yl : Int)) = false := int_ne (by omega)
    clear ih hL
    go_enter Try.func19, Try.ntmps19
    go_wp2
    go_ret
    exact retB hf.out HB.out.2.2
  have hf : Hid (xsame ⟨⟨xk, xn, xs⟩, xl⟩ ⟨⟨xk, xn, xs⟩, yl⟩ = esame xl yl) := show xsame _ _ = _ by simp [xsame, hsame]
  have hlx : elen xl ≤ 10000000 := by have := elen_le xl; have hx3 : enodes xl ≤ 10000000 := hx; omega
  have h1 : ((elen xl : Int) == (elen yl : Int)) = true := by rw [beq_iff_eq]; omega
  have Hih := Lib.hid ih
  have HL := Lib.hid hL
  have hx2 : enodes xl ≤ 10000000 := hx
  have hy2 : enodes yl ≤ 10000000 := hy
  clear ih hL hx hy
  go_enter Try.func19, Try.ntmps19
  go_wp2
  go_loopw [5] (fun i wr => ∃ (R S : EF) (k : Nat), i = .int .i64 (k : Int) ∧ Hid (k + elen R = elen xl ∧ k + elen S = elen yl ∧ enodes R ≤ enodes xl ∧ enodes S ≤ enodes yl ∧ EIn w 0 R b1 (o1 + k * 4) ∧ EIn w 0 S b2 (o2 + k * 4) ∧ esame xl yl = esame R S) ∧ Hid (wr.rangeAt w.heap.size 0 [.int .i64 xk, .int .i64 xn, .string xs, .slice ao1 (elen xl) cap1] ∧ wr.rangeAt (w.heap.size + 1) 0 [.int .i64 xk, .int .i64 xn, .string xs, .slice ao2 (elen yl) cap2]) ∧ Below w.heap.size w wr) (fun i _ => elen xl - (RowKit.intOf i).toNat)
  case atStart => exact ⟨xl, yl, 0, rfl, ⟨by omega, by have := HL.out; omega, Nat.le_refl _, Nat.le_refl _, by simpa using hin1, by simpa using hin2, rfl⟩, ⟨HB.out.1, HB.out.2.1⟩, HB.out.2.2⟩
  case round =>
    obtain ⟨R, S, k, rfl, hr, hrg, hbw⟩ := hrel
    obtain ⟨e1, e2, e3, e4, e5, e6, e7⟩ := hr.out
    have c1 : wr.cell? ⟨w.heap.size, 3, Option.none⟩ = some (.slice ao1 (elen xl) cap1) := by have := hrg.out.1 3 _ rfl; rwa [Nat.zero_add] at this
    have c2 : wr.cell? ⟨w.heap.size + 1, 3, Option.none⟩ = some (.slice ao2 (elen yl) cap2) := by have := hrg.out.2 3 _ rfl; rwa [Nat.zero_add] at this
    cases R with
    | nil =>
      have hk : ¬ (k : Int) < (elen xl : Int) := by simp only [elen] at e1; omega
      have hres : Hid (esame xl yl = true) := show esame xl yl = true by
        rw [e7]
        cases S with
        | nil => rfl
        | node _ _ _ _ _ => simp only [elen] at e1 e2; have := HL.out; omega
      go_wp2
      go_ret
      exact retB (by rw [hf.out, hres.out]) hbw
    | node p q h l r =>
      cases S with
      | nil => simp only [elen] at e1 e2; have := HL.out; omega
      | node p' q' h' l' r' =>
      have hlt : (k : Int) < (elen xl : Int) := by simp only [elen] at e1; omega
      have hlt2 : (k : Int) < (elen yl : Int) := by simp only [elen] at e2; omega
      have hk0 : (0 : Int) ≤ (k : Int) := by omega
      have hne1 : ¬ xl = .nil := by intro e; rw [e] at e1; simp only [elen] at e1; omega
      have hne2 : ¬ yl = .nil := by intro e; rw [e] at e2; simp only [elen] at e2; omega
      obtain rfl : ao1 = some ⟨b1, o1, Option.none⟩ := hao1.resolve_right hne1
      obtain rfl : ao2 = some ⟨b2, o2, Option.none⟩ := hao2.resolve_right hne2
      obtain ⟨⟨a0, a1, a2, u1, a3, hu1⟩, _⟩ := EIn_node.1 (EIn_later hbw _ _ _ e5)
      obtain ⟨⟨d0, d1, d2, u2, d3, hu2⟩, _⟩ := EIn_node.1 (EIn_later hbw _ _ _ e6)
      have ra : wr.rangeAt b1 (o1 + k * 4) (xcells ⟨h, l⟩ u1) := x_range a0 a1 a2 a3
      have rc : wr.rangeAt b2 (o2 + k * 4) (xcells ⟨h', l'⟩ u2) := x_range d0 d1 d2 d3
      simp only [enodes] at e3 e4
      have Hl := Lib.hid (Hih.out ⟨h, l⟩ ⟨h', l'⟩ (by show enodes l < enodes xl; omega) (by show enodes l' ≤ _; omega))
      rw [esame_node] at e7
      have He : Hid (k + 1 + elen r = elen xl ∧ k + 1 + elen r' = elen yl ∧ enodes r ≤ enodes xl ∧ enodes r' ≤ enodes yl ∧ EIn w 0 r b1 (o1 + (k + 1) * 4) ∧ EIn w 0 r' b2 (o2 + (k + 1) * 4) ∧ esame xl yl = (xsame ⟨h, l⟩ ⟨h', l'⟩ && esame r r')) := ⟨by simp only [elen] at e1; omega, by simp only [elen] at e2; omega, by omega, by omega, by rw [show o1 + (k + 1) * 4 = o1 + k * 4 + 4 by omega]; exact (EIn_node.1 e5).2, by rw [show o2 + (k + 1) * 4 = o2 + k * 4 + 4 by omega]; exact (EIn_node.1 e6).2, e7⟩
      have HU := Lib.hid (And.intro hu1 hu2)
      obtain ⟨A, HA⟩ : ∃ A, Hid (A = xcells ⟨h, l⟩ u1) := ⟨_, rfl⟩
      obtain ⟨C, HC⟩ : ∃ C, Hid (C = xcells ⟨h', l'⟩ u2) := ⟨_, rfl⟩
      rw [← HA.out] at ra
      rw [← HC.out] at rc
      have hiA : (Try.prog.info? 26).map (·.size) = some A.length := by rw [HA.out]; exact sizeIE2
      have hiC : (Try.prog.info? 26).map (·.size) = some C.length := by rw [HC.out]; exact sizeIE2
      obtain ⟨tv, htv⟩ : ∃ tv, xsame ⟨h, l⟩ ⟨h', l'⟩ = tv := ⟨_, rfl⟩
      have Htv := Lib.hid htv
      clear hr e1 e2 e3 e4 e5 e6 e7 hin1 hin2 hne1 hne2 hao1 hao2 hu1 hu2 a0 a1 a2 a3 d0 d1 d2 d3 htv
      go_wp2_with fail
      go_cut [52] from 34 to 52 (fun v wx => v = .bool (!tv) ∧ Below wr.heap.size wr wx)
      case first =>
        refine wp_region_held_drew (S := fun w' => (w'.cell? ⟨w.heap.size, 3, Option.none⟩ = some (.slice (some ⟨b1, o1, Option.none⟩) (elen xl) cap1) ∧ w'.cell? ⟨w.heap.size + 1, 3, Option.none⟩ = some (.slice (some ⟨b2, o2, Option.none⟩) (elen yl) cap2)) ∧ (w'.rangeAt b1 (o1 + k * 4) A ∧ w'.rangeAt b2 (o2 + k * 4) C)) (by kernel_rfl) ⟨⟨c1, c2⟩, ⟨(World.rangeAt_drew _ _ _ _).2 ra, (World.rangeAt_drew _ _ _ _).2 rc⟩⟩ (fun hHeld => ?_)
        refine wpAnyH_take (i := 0) (v := .pointer (some ⟨w.heap.size, 3, Option.none⟩)) rfl (by kernel_rfl) (by kernel_rfl) (by kernel_rfl) (fun _ _ _ h => h) (Or.inl ⟨by rfl, ?y0⟩) hHeld ?_
        case y0 => intro w hSw; go_simp
        simp only [Act.put, List.getElem_toArray, List.getElem_cons_succ, List.getElem_cons_zero, List.setIfInBounds_toArray, List.set_cons_zero, List.set_cons_succ]
        refine wpAnyH_take (i := 1) (v := .slice (some ⟨b1, o1, Option.none⟩) (elen xl) cap1) rfl (by kernel_rfl) (by kernel_rfl) (by kernel_rfl) (fun _ _ _ h => h) (Or.inl ⟨by rfl, ?y1⟩) hHeld ?_
        case y1 => intro w hSw; have q1 := hSw.1.1; clear hSw c1 c2 ra rc hHeld; go_simp
        simp only [Act.put, List.getElem_toArray, List.getElem_cons_succ, List.getElem_cons_zero, List.setIfInBounds_toArray, List.set_cons_zero, List.set_cons_succ]
        refine wpAnyH_take (i := 2) (v := .int .i64 (k : Int)) rfl (by kernel_rfl) (by kernel_rfl) (by kernel_rfl) (fun _ _ _ h => h) (Or.inl ⟨by rfl, ?y2⟩) hHeld ?_
        case y2 => intro w hSw; go_simp
        simp only [Act.put, List.getElem_toArray, List.getElem_cons_succ, List.getElem_cons_zero, List.setIfInBounds_toArray, List.set_cons_zero, List.set_cons_succ]
        refine wpAnyH_take (i := 3) (v := .pointer (some ⟨b1, o1 + k * 4, Option.none⟩)) rfl (by kernel_rfl) (by kernel_rfl) (by kernel_rfl) (fun _ _ _ h => h) (Or.inl ⟨by rfl, ?y3⟩) hHeld ?_
        case y3 => intro w hSw; go_simp
        simp only [Act.put, List.getElem_toArray, List.getElem_cons_succ, List.getElem_cons_zero, List.setIfInBounds_toArray, List.set_cons_zero, List.set_cons_succ]
        refine wpAnyH_take (i := 4) (v := .agg A.toArray) rfl (by kernel_rfl) (by kernel_rfl) (by kernel_rfl) (fun _ _ _ h => h) (yieldsIf_load_mid (by rfl) 26 _ rfl b1 (o1 + k * 4) rfl A _ (fun w h => h.2.1) Try.underlying26 rfl hiA) hHeld ?_
        simp only [Act.put, List.getElem_toArray, List.getElem_cons_succ, List.getElem_cons_zero, List.setIfInBounds_toArray, List.set_cons_zero, List.set_cons_succ]
        refine wpAnyH_take (i := 5) (v := .pointer (some ⟨w.heap.size + 1, 3, Option.none⟩)) rfl (by kernel_rfl) (by kernel_rfl) (by kernel_rfl) (fun _ _ _ h => h) (Or.inl ⟨by rfl, ?y5⟩) hHeld ?_
        case y5 => intro w hSw; go_simp
        simp only [Act.put, List.getElem_toArray, List.getElem_cons_succ, List.getElem_cons_zero, List.setIfInBounds_toArray, List.set_cons_zero, List.set_cons_succ]
        refine wpAnyH_take (i := 6) (v := .slice (some ⟨b2, o2, Option.none⟩) (elen yl) cap2) rfl (by kernel_rfl) (by kernel_rfl) (by kernel_rfl) (fun _ _ _ h => h) (Or.inl ⟨by rfl, ?y6⟩) hHeld ?_
        case y6 => intro w hSw; have q1 := hSw.1.2; clear hSw c1 c2 ra rc hHeld; go_simp
        simp only [Act.put, List.getElem_toArray, List.getElem_cons_succ, List.getElem_cons_zero, List.setIfInBounds_toArray, List.set_cons_zero, List.set_cons_succ]
        refine wpAnyH_take (i := 7) (v := .int .i64 (k : Int)) rfl (by kernel_rfl) (by kernel_rfl) (by kernel_rfl) (fun _ _ _ h => h) (Or.inl ⟨by rfl, ?y7⟩) hHeld ?_
        case y7 => intro w hSw; go_simp
        simp only [Act.put, List.getElem_toArray, List.getElem_cons_succ, List.getElem_cons_zero, List.setIfInBounds_toArray, List.set_cons_zero, List.set_cons_succ]
        refine wpAnyH_take (i := 8) (v := .pointer (some ⟨b2, o2 + k * 4, Option.none⟩)) rfl (by kernel_rfl) (by kernel_rfl) (by kernel_rfl) (fun _ _ _ h => h) (Or.inl ⟨by rfl, ?y8⟩) hHeld ?_
        case y8 => intro w hSw; go_simp
        simp only [Act.put, List.getElem_toArray, List.getElem_cons_succ, List.getElem_cons_zero, List.setIfInBounds_toArray, List.set_cons_zero, List.set_cons_succ]
        refine wpAnyH_take (i := 9) (v := .agg C.toArray) rfl (by kernel_rfl) (by kernel_rfl) (by kernel_rfl) (fun _ _ _ h => h) (yieldsIf_load_mid (by rfl) 26 _ rfl b2 (o2 + k * 4) rfl C _ (fun w h => h.2.2) Try.underlying26 rfl hiC) hHeld ?_
        simp only [Act.put, List.getElem_toArray, List.getElem_cons_succ, List.getElem_cons_zero, List.setIfInBounds_toArray, List.set_cons_zero, List.set_cons_succ]
        refine wpAnyH_ready (rs := [10]) (by kernel_rfl) (by simp) ?_
        refine AllReadyH.cons rfl (fun K hK => ?_) AllReadyH.nil
        rw [if_pos (by rfl)]
        simp only [List.getElem_toArray, List.getElem_cons_succ, List.getElem_cons_zero]
        have hq := Hl.out _ _ _ HU.out.1.drew HU.out.2.drew
        rw [Htv.out, ← HA.out, ← HC.out] at hq
        have HQ := Lib.hid hq
        clear hq
        go_wp2_with fail
        refine HQ.out.mono ?_
        rintro e w1 ⟨rfl, hb1⟩
        go_wp2_with fail
        refine hK.out _ _ ⟨⟨keeps hb1 hHeld.1.1, keeps hb1 hHeld.1.2⟩, ⟨rangeAt_later hHeld.2.1 hb1, rangeAt_later hHeld.2.2 hb1⟩⟩ (fun hHeld => ?_)
        refine wpAnyH_take (i := 11) (v := .bool (!tv)) rfl (by kernel_rfl) (by kernel_rfl) (by kernel_rfl) (fun _ _ _ h => h) (Or.inl ⟨by rfl, ?y11⟩) hHeld ?_
        case y11 => intro w hSw; go_simp
        simp only [Act.put, List.getElem_toArray, List.getElem_cons_succ, List.getElem_cons_zero, List.setIfInBounds_toArray, List.set_cons_zero, List.set_cons_succ]
        refine wpAnyH_done (by kernel_rfl) ?_ _
        all_goals (try go_wp2_with fail)
        all_goals go_meet
        all_goals exact ⟨rfl, ⟨hb1.os, hb1.tape, hb1.output, hb1.size, hb1.block⟩⟩
      case rest =>
        obtain ⟨rfl, hb1⟩ := hcut
        have hbw2 := hbw.trans (hb1.mono hbw.size)
        have hrg2 := Lib.hid (And.intro (rangeAt_later hrg.out.1 hb1) (rangeAt_later hrg.out.2 hb1))
        clear ra rc hb1 hiA hiC c1 c2 hrg hbw
        cases tv with
        | false =>
          have hres : Hid (esame xl yl = false) := show esame xl yl = false by rw [He.out.2.2.2.2.2.2, Htv.out]; rfl
          go_wp2
          go_ret
          exact retB (by rw [hf.out, hres.out]) hbw2
        | true =>
          go_wp2
          go_roundw
          case rel =>
            obtain ⟨g1, g2, g3, g4, g5, g6, g7⟩ := He.out
            exact ⟨r, r', k + 1, by go_num, ⟨g1, g2, g3, g4, g5, g6, by rw [g7, Htv.out, Bool.true_and]⟩, hrg2, hbw2⟩
          case measure => simp [RowKit.intOf]; omega
theorem spec_SameExp_all : ∀ (n : Nat) (x y : X), enodes x.l < n → enodes x.l ≤ 10000000 → enodes y.l ≤ 10000000 → ∀ (w : World) (va vb : Value), EV w 0 x.l va → EV w 0 y.l vb → Calls Try.prog 19 #[.agg (xcells x va).toArray, .agg (xcells y vb).toArray] w fun e w' => e = .returned (.bool (xsame x y)) ∧ Below w.heap.size w w'
  | 0, _, _, h, _, _, _, _, _, _, _ => absurd h (by omega)
  | n + 1, x, y, h, hx, hy, w, va, vb, ha, hb => spec_SameExp_step x y hx hy (fun x' y' h1 h2 w va vb a b => spec_SameExp_all n x' y' (by omega) (by omega) h2 w va vb a b) w va vb ha hb
theorem spec_SameExp (x y : X) (hx : enodes x.l ≤ 10000000) (hy : enodes y.l ≤ 10000000) (w : World) (va vb : Value) (ha : EV w 0 x.l va) (hb : EV w 0 y.l vb) :
    Calls Try.prog 19 #[.agg (xcells x va).toArray, .agg (xcells y vb).toArray] w fun e w' => e = .returned (.bool (xsame x y)) ∧ Below w.heap.size w w' := spec_SameExp_all _ x y (Nat.lt_succ_self _) hx hy w va vb ha hb
end Go.Proofs.Ytlepidbgebfglaa
