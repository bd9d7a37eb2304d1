/-
  Texts in one: AstCpyS, AstSMore, AstAny.
-/
import Derived.Test.YtkhccpjkajhnpaaP05ofFnAsts
import Derived.Test.YtkhccpjkajhnpaaP04ofFnAsts
/-
  The contract of l3Copy.
-/
namespace Go.Proofs.Ytkhccpjkajhnpaa
open Go.RowKit Go.Lib
set_option linter.unusedSimpArgs false
set_option linter.unusedVariables false

theorem snodes_app : ∀ (P R : SF), snodes (sapp P R) = snodes P + snodes R
  | .nil, R => by simp [sapp, snodes]
  | .node _ _ h l r, R => by have := snodes_app r R; simp only [sapp, snodes]; omega
structure Cps (w : World) (P : SF) (xs : List Value) (t : Value) (wr : World) : Prop where
  own : wr.ownsRow w.heap.size 30 19 t (slen P) xs
  row : SRx (gOf t) wr w.heap.size P xs
  low : Below w.heap.size w wr
  h0 : 0 < w.heap.size
theorem Cps.glt {w wr : World} {P : SF} {xs : List Value} {t : Value} (s : Cps w P xs t wr) : gOf t < wr.heap.size := by
  unfold gOf
  cases h : t.ownBlock with
  | none => have := s.low.size; have := s.h0; simp only [Option.getD_none]; omega
  | some g => exact (s.own.lt g h).2
theorem Cps.later {w wr w' : World} {P : SF} {xs : List Value} {t : Value} (s : Cps w P xs t wr) (hb : Below wr.heap.size wr w') : Cps w P xs t w' :=
  ⟨ownB s.own hb, s.row.step (fun _ _ e => e.later hb) (fun _ _ e => e.step (fun a u _ _ hc => keeps hb hc)), s.low.trans (hb.mono s.low.size), s.h0⟩
theorem Cps.next {w : World} {g c p q : Nat} {P : SF} {xs : List Value} {t : Value} {wr w1 w6 : World} {h : SH} {l : SF} {v1 v2 v3 v4 v : Value} (s : Cps w P xs t w1) (hg0 : gOf t < wr.heap.size) (hwr : w.heap.size ≤ wr.heap.size) (he : HV w1 wr.heap.size h v1 v2 v3 v4) (hs : SV w1 wr.heap.size l v)
    (hown : w6.ownsRow w.heap.size 30 19 (.slice (some ⟨g, 0, Option.none⟩) (slen P + 1) c) (slen P + 1) (xs ++ scells h v1 v2 v3 v4 v)) {o : Obj} (hg : (w1.alloc o).grownBy w6 t.ownBlock) (hat : t.ownBlock = some g ∨ w1.heap.size + 1 ≤ g) :
    Cps w (sapp P (.node p q h l .nil)) (xs ++ scells h v1 v2 v3 v4 v) (.slice (some ⟨g, 0, Option.none⟩) (slen P + 1) c) w6 := by
  have hb1 := alloc_below w1 o
  have hN1 : w.heap.size ≤ w1.heap.size := s.low.size
  have hBel : Below w.heap.size w1 w6 := (hb1.mono hN1).grown hg (by simp; omega) (fun k hk => (s.own.lt k hk).1)
  have hel : slen (sapp P (.node p q h l .nil)) = slen P + 1 := by rw [slen_app]; rfl
  have hat' : t.ownBlock = some g ∨ (w1.alloc o).heap.size ≤ g := by rcases hat with e | e; exact .inl e; exact .inr (by simp; exact e)
  have fE : ∀ (F : EF) (z : Value), EVx (gOf t) w1 w.heap.size F z → EVx g w6 w.heap.size F z := fun F z hz => (hz.later hb1).grow s.h0 hg hat'
  have fS : ∀ (F : SF) (z : Value), SVx (gOf t) w1 w.heap.size F z → SVx g w6 w.heap.size F z := fun F z hz => (hz.step (fun a u _ _ hc => keeps hb1 hc)).grow hg hat'
  refine ⟨by rw [hel]; exact hown, ?_, s.low.trans hBel, s.h0⟩
  exact (s.row.step fE fS).app ⟨v1, v2, v3, v4, v, [], by rw [List.append_nil], ⟨fE _ _ (EVx.fresh he.e1 hwr hg0), fE _ _ (EVx.fresh he.e2 hwr hg0), fE _ _ (EVx.fresh he.e3 hwr hg0), fE _ _ (EVx.fresh he.e4 hwr hg0)⟩, fS _ _ (SVx.fresh hs hwr hg0), rfl⟩
/-- A row of statements was copied. -/
def CopiedS (F : SF) (w : World) (e : Ending) (w' : World) : Prop := ∃ (G : SF) (u : Value), e = .returned u ∧ SV w' w.heap.size G u ∧ slen G = slen F ∧ snodes G = snodes F ∧ ssize G = ssize F ∧ Below w.heap.size w w'
section
variable {w : World} {n : Nat} {h : SH} {v1 v2 v3 v4 v : Value}
theorem sr1 (r : w.rangeAt n 0 (scells h v1 v2 v3 v4 v)) : w.rangeAt n 2 (xcells h.x1 v1) := rangeAt_part (ds := [.int .i64 h.k, .string h.s]) (es := xcells h.x1 v1) r rfl
theorem sr2 (r : w.rangeAt n 0 (scells h v1 v2 v3 v4 v)) : w.rangeAt n 6 (xcells h.x2 v2) := rangeAt_part (ds := .int .i64 h.k :: .string h.s :: xcells h.x1 v1) (es := xcells h.x2 v2) r rfl
theorem sr3 (r : w.rangeAt n 0 (scells h v1 v2 v3 v4 v)) : w.rangeAt n 10 (xcells h.x3 v3) := rangeAt_part (ds := .int .i64 h.k :: .string h.s :: (xcells h.x1 v1 ++ xcells h.x2 v2)) (es := xcells h.x3 v3) r rfl
theorem sr4 (r : w.rangeAt n 0 (scells h v1 v2 v3 v4 v)) : w.rangeAt n 14 (xcells h.x4 v4) := rangeAt_part (ds := .int .i64 h.k :: .string h.s :: (xcells h.x1 v1 ++ (xcells h.x2 v2 ++ xcells h.x3 v3))) (es := xcells h.x4 v4) r rfl
theorem sr0 (r : w.rangeAt n 0 (scells h v1 v2 v3 v4 v)) : w.cell? ⟨n, 0, Option.none⟩ = some (.int .i64 h.k) ∧ w.cell? ⟨n, 1, Option.none⟩ = some (.string h.s) ∧ w.cell? ⟨n, 18, Option.none⟩ = some v := by
  have r0 := r 0 _ rfl; have r1 := r 1 _ rfl; have r2 := r 18 _ rfl
  simp only [Nat.zero_add] at r0 r1 r2
  exact ⟨r0, r1, r2⟩
end
set_option maxHeartbeats 4000000 in
set_option maxRecDepth 100000 in
theorem l3Copy_step (F : SF) (hF : ssize F ≤ 1048576)
    (ih : ∀ F' : SF, snodes F' < snodes F → ssize F' ≤ 1048576 → ∀ (w : World) (v : Value), 0 < w.heap.size → SV w 0 F' v → Calls Try.prog 25 #[v] w (CopiedS F' w))
    (w : World) (v : Value) (h0 : 0 < w.heap.size) (hv : SV w 0 F v) : Calls Try.prog 25 #[v] w (CopiedS F w) := by
  obtain ⟨i0, hi, hz0, hz1, hz2⟩ := info_parts infoIS2
  have HI := Lib.hid (And.intro hi (And.intro hz0 (And.intro hz1 hz2)))
  clear hi hz0 hz1 hz2
  obtain ⟨b, o, ao, cap, rfl, hao, _, hin⟩ := hv
  have hlx : slen F ≤ 1048576 := by have := ssize_bulk F; omega
  have Hih := Lib.hid ih
  have b0 := alloc_below w (.cells #[] 30)
  have C0 : Hid (Cps w .nil [] (.slice (some ⟨w.heap.size, 0, Option.none⟩) 0 0) (w.alloc (.cells #[] 30))) := Lib.hid ⟨⟨rfl, .inr ⟨w.heap.size, 0, #[], rfl, Nat.le_refl _, heapNew _ _ _, Nat.le_refl _, by unfold maxLen; omega, rfl, rfl⟩⟩, rfl, b0, h0⟩
  clear ih b0
  go_enter Try.func25, Try.ntmps25
  go_wp2
  go_loopw [3, 4] (fun t i wr => ∃ (P R : SF) (xs : List Value) (k : Nat), i = .int .i64 (k : Int) ∧ Hid (k + slen R = slen F ∧ slen P = k ∧ snodes P + snodes R = snodes F ∧ ssize P + ssize R = ssize F ∧ SIn w 0 R b (o + k * 19)) ∧ Hid (Cps w P xs t wr)) (fun _ i _ => slen F - (RowKit.intOf i).toNat)
  case atStart => exact ⟨.nil, F, [], 0, rfl, ⟨by omega, rfl, by simp [snodes], by simp [ssize], by simpa using hin⟩, C0⟩
  case round =>
    obtain ⟨P, R, xs, k, rfl, hr, hC⟩ := hrel
    obtain ⟨e1, e2, e3, e4, e5⟩ := hr.out
    clear C0 hr
    cases R with
    | nil =>
      have hk : ¬ (k : Int) < (slen F : Int) := by simp only [slen] at e1; omega
      have HE := Lib.hid (And.intro e1 (And.intro e2 (And.intro e3 e4)))
      clear e1 e2 e3 e4 e5
      go_wp2
      go_ret
      exact ⟨P, _, rfl, SO.sv ⟨xs, hC.out.own, hC.out.row⟩, by have := HE.out; simp only [slen] at this; omega, by have := HE.out; simp only [snodes] at this; omega, by have := HE.out; simp only [ssize] at this; omega, hC.out.low⟩
    | node p q h l r =>
      have hlt : (k : Int) < (slen F : Int) := by simp only [slen] at e1; omega
      have hk0 : (0 : Int) ≤ (k : Int) := by omega
      have hne1 : ¬ F = .nil := by intro e; rw [e] at e1; simp only [slen] at e1; omega
      obtain rfl : ao = some ⟨b, o, Option.none⟩ := hao.resolve_right hne1
      have hbz : Below w.heap.size w wr := hC.out.low
      obtain ⟨v1, v2, v3, v4, u, hv0, hu0, hrg0⟩ := SC.range (SIn_node.1 e5).1
      have Hrg := Lib.hid (rangeAt_later hrg0 hbz)
      have o1 := hv0.e1.isOne; have o2 := hv0.e2.isOne; have o3 := hv0.e3.isOne; have o4 := hv0.e4.isOne; have o5 := hu0.isOne
      simp only [snodes] at e3
      simp only [ssize] at e4
      have hE : enodes h.x1.l ≤ 10000000 ∧ enodes h.x2.l ≤ 10000000 ∧ enodes h.x3.l ≤ 10000000 ∧ enodes h.x4.l ≤ 10000000 := by
        have := enodes_le h.x1.l; have := enodes_le h.x2.l; have := enodes_le h.x3.l; have := enodes_le h.x4.l
        simp only [hsize, xsize] at e4
        omega
      have H1 : Hid (∀ W, Below w.heap.size w W → Calls Try.prog 24 #[.agg (xcells h.x1 v1).toArray] W (CopiedE h.x1 W)) := Lib.hid fun W hW => l3CopyExp_all _ h.x1 (Nat.le_refl _) hE.1 W v1 (hv0.e1.later hW)
      have H2 : Hid (∀ W, Below w.heap.size w W → Calls Try.prog 24 #[.agg (xcells h.x2 v2).toArray] W (CopiedE h.x2 W)) := Lib.hid fun W hW => l3CopyExp_all _ h.x2 (Nat.le_refl _) hE.2.1 W v2 (hv0.e2.later hW)
      have H3 : Hid (∀ W, Below w.heap.size w W → Calls Try.prog 24 #[.agg (xcells h.x3 v3).toArray] W (CopiedE h.x3 W)) := Lib.hid fun W hW => l3CopyExp_all _ h.x3 (Nat.le_refl _) hE.2.2.1 W v3 (hv0.e3.later hW)
      have H4 : Hid (∀ W, Below w.heap.size w W → Calls Try.prog 24 #[.agg (xcells h.x4 v4).toArray] W (CopiedE h.x4 W)) := Lib.hid fun W hW => l3CopyExp_all _ h.x4 (Nat.le_refl _) hE.2.2.2 W v4 (hv0.e4.later hW)
      have H5 : Hid (∀ W, Below w.heap.size w W → Calls Try.prog 25 #[u] W (CopiedS l W)) := Lib.hid fun W hW => Hih.out l (by omega) (by omega) W u (by have := hW.size; omega) (hu0.later hW)
      have He : Hid ((k + 1 + slen r = slen F ∧ slen P = k) ∧ snodes P + (snodes l + snodes r + 1) = snodes F ∧ ssize P + (hsize h + ssize l + ssize r + 1) = ssize F ∧ SIn w 0 r b (o + (k + 1) * 19)) := ⟨⟨by simp only [slen] at e1; omega, e2⟩, e3, e4, by have := (SIn_node.1 e5).2; rw [show o + (k + 1) * 19 = o + k * 19 + 19 by omega]; exact this⟩
      have hgl := hC.out.glt
      have hPk : slen P ≤ 1048576 := by omega
      obtain ⟨ta, tc, rfl⟩ := ownShape' hC.out.own
      clear e1 e2 e3 e4 e5 hne1 hv0 hu0 hrg0 hbz hE Hih
      go_wp2_with (first | (refine wpList_load_mid rfl 30 _ rfl b (o + k * 19) rfl _ _ Hrg.out Try.underlying30 rfl sizeIS ?_) | (refine store_abs rfl 30 _ _ rfl _ _ _ rfl rfl ?ht sizeIS ?ho ?_; exact (newthere wr _); exact (oneS h v1 v2 v3 v4 _ o1 o2 o3 o4 o5); intro W hW; have HW := Lib.hid (newblkS h v1 v2 v3 v4 _ hW); clear hW))
      have bd : Below W.heap.size W W.drew := (Below.refl _ W).drew
      have CW := Lib.hid ((hC.out.later HW.out.2).later bd)
      have hWz := HW.out.2.size
      have hwz := hC.out.low.size
      clear hC
      refine wp_region_held_drew (S := fun w' => w'.rangeAt wr.heap.size 0 (scells h v1 v2 v3 v4 u)) (by kernel_rfl) (rangeAt_later HW.out.1 bd) (fun hHeld => ?_)
      refine wpAnyH_take (i := 0) (v := .slice ta (slen P) tc) rfl (by kernel_rfl) (by kernel_rfl) (by kernel_rfl) (fun _ _ _ h => h) (Or.inl ⟨by rfl, ?yc0⟩) hHeld ?_
      case yc0 => intro w hSw; go_simp
      simp only [Act.put, List.getElem_toArray, List.getElem_cons_succ, List.getElem_cons_zero, List.setIfInBounds_toArray, List.set_cons_zero, List.set_cons_succ]
      refine wpAnyH_take (i := 1) (v := .pointer (some ⟨wr.heap.size, 0, Option.none⟩)) rfl (by kernel_rfl) (by kernel_rfl) (by kernel_rfl) (fun _ _ _ h => h) (Or.inl ⟨by rfl, ?yc1⟩) hHeld ?_
      case yc1 => intro w hSw; go_simp
      simp only [Act.put, List.getElem_toArray, List.getElem_cons_succ, List.getElem_cons_zero, List.setIfInBounds_toArray, List.set_cons_zero, List.set_cons_succ]
      refine wpAnyH_take (i := 2) (v := .int .i64 h.k) rfl (by kernel_rfl) (by kernel_rfl) (by kernel_rfl) (fun _ _ _ h => h) (Or.inl ⟨by rfl, ?yc2⟩) hHeld ?_
      case yc2 => intro w hSw; have q := sr0 hSw; have q0 := q.1; have q1 := q.2.1; have q2 := q.2.2; go_simp
      simp only [Act.put, List.getElem_toArray, List.getElem_cons_succ, List.getElem_cons_zero, List.setIfInBounds_toArray, List.set_cons_zero, List.set_cons_succ]
      refine wpAnyH_take (i := 3) (v := .pointer (some ⟨wr.heap.size, 1, Option.none⟩)) rfl (by kernel_rfl) (by kernel_rfl) (by kernel_rfl) (fun _ _ _ h => h) (Or.inl ⟨by rfl, ?yc3⟩) hHeld ?_
      case yc3 => intro w hSw; go_simp
      simp only [Act.put, List.getElem_toArray, List.getElem_cons_succ, List.getElem_cons_zero, List.setIfInBounds_toArray, List.set_cons_zero, List.set_cons_succ]
      refine wpAnyH_take (i := 4) (v := .string h.s) rfl (by kernel_rfl) (by kernel_rfl) (by kernel_rfl) (fun _ _ _ h => h) (Or.inl ⟨by rfl, ?yc4⟩) hHeld ?_
      case yc4 => intro w hSw; have q := sr0 hSw; have q0 := q.1; have q1 := q.2.1; have q2 := q.2.2; go_simp
      simp only [Act.put, List.getElem_toArray, List.getElem_cons_succ, List.getElem_cons_zero, List.setIfInBounds_toArray, List.set_cons_zero, List.set_cons_succ]
      refine wpAnyH_take (i := 5) (v := .pointer (some ⟨wr.heap.size, 2, Option.none⟩)) rfl (by kernel_rfl) (by kernel_rfl) (by kernel_rfl) (fun _ _ _ h => h) (Or.inl ⟨by rfl, ?yc5⟩) hHeld ?_
      case yc5 => intro w hSw; go_simp
      simp only [Act.put, List.getElem_toArray, List.getElem_cons_succ, List.getElem_cons_zero, List.setIfInBounds_toArray, List.set_cons_zero, List.set_cons_succ]
      refine wpAnyH_take (i := 6) (v := .agg (xcells h.x1 v1).toArray) rfl (by kernel_rfl) (by kernel_rfl) (by kernel_rfl) (fun _ _ _ h => h) (yieldsIf_load_mid (by rfl) 26 _ rfl (wr.heap.size) (2) rfl (xcells h.x1 v1) _ (fun w h => sr1 h) Try.underlying26 rfl sizeIE2) hHeld ?_
      simp only [Act.put, List.getElem_toArray, List.getElem_cons_succ, List.getElem_cons_zero, List.setIfInBounds_toArray, List.set_cons_zero, List.set_cons_succ]
      refine wpAnyH_take (i := 8) (v := .pointer (some ⟨wr.heap.size, 6, Option.none⟩)) rfl (by kernel_rfl) (by kernel_rfl) (by kernel_rfl) (fun _ _ _ h => h) (Or.inl ⟨by rfl, ?yc8⟩) hHeld ?_
      case yc8 => intro w hSw; go_simp
      simp only [Act.put, List.getElem_toArray, List.getElem_cons_succ, List.getElem_cons_zero, List.setIfInBounds_toArray, List.set_cons_zero, List.set_cons_succ]
      refine wpAnyH_take (i := 9) (v := .agg (xcells h.x2 v2).toArray) rfl (by kernel_rfl) (by kernel_rfl) (by kernel_rfl) (fun _ _ _ h => h) (yieldsIf_load_mid (by rfl) 26 _ rfl (wr.heap.size) (6) rfl (xcells h.x2 v2) _ (fun w h => sr2 h) Try.underlying26 rfl sizeIE2) hHeld ?_
      simp only [Act.put, List.getElem_toArray, List.getElem_cons_succ, List.getElem_cons_zero, List.setIfInBounds_toArray, List.set_cons_zero, List.set_cons_succ]
      refine wpAnyH_take (i := 11) (v := .pointer (some ⟨wr.heap.size, 10, Option.none⟩)) rfl (by kernel_rfl) (by kernel_rfl) (by kernel_rfl) (fun _ _ _ h => h) (Or.inl ⟨by rfl, ?yc11⟩) hHeld ?_
      case yc11 => intro w hSw; go_simp
      simp only [Act.put, List.getElem_toArray, List.getElem_cons_succ, List.getElem_cons_zero, List.setIfInBounds_toArray, List.set_cons_zero, List.set_cons_succ]
      refine wpAnyH_take (i := 12) (v := .agg (xcells h.x3 v3).toArray) rfl (by kernel_rfl) (by kernel_rfl) (by kernel_rfl) (fun _ _ _ h => h) (yieldsIf_load_mid (by rfl) 26 _ rfl (wr.heap.size) (10) rfl (xcells h.x3 v3) _ (fun w h => sr3 h) Try.underlying26 rfl sizeIE2) hHeld ?_
      simp only [Act.put, List.getElem_toArray, List.getElem_cons_succ, List.getElem_cons_zero, List.setIfInBounds_toArray, List.set_cons_zero, List.set_cons_succ]
      refine wpAnyH_take (i := 14) (v := .pointer (some ⟨wr.heap.size, 14, Option.none⟩)) rfl (by kernel_rfl) (by kernel_rfl) (by kernel_rfl) (fun _ _ _ h => h) (Or.inl ⟨by rfl, ?yc14⟩) hHeld ?_
      case yc14 => intro w hSw; go_simp
      simp only [Act.put, List.getElem_toArray, List.getElem_cons_succ, List.getElem_cons_zero, List.setIfInBounds_toArray, List.set_cons_zero, List.set_cons_succ]
      refine wpAnyH_take (i := 15) (v := .agg (xcells h.x4 v4).toArray) rfl (by kernel_rfl) (by kernel_rfl) (by kernel_rfl) (fun _ _ _ h => h) (yieldsIf_load_mid (by rfl) 26 _ rfl (wr.heap.size) (14) rfl (xcells h.x4 v4) _ (fun w h => sr4 h) Try.underlying26 rfl sizeIE2) hHeld ?_
      simp only [Act.put, List.getElem_toArray, List.getElem_cons_succ, List.getElem_cons_zero, List.setIfInBounds_toArray, List.set_cons_zero, List.set_cons_succ]
      refine wpAnyH_take (i := 17) (v := .pointer (some ⟨wr.heap.size, 18, Option.none⟩)) rfl (by kernel_rfl) (by kernel_rfl) (by kernel_rfl) (fun _ _ _ h => h) (Or.inl ⟨by rfl, ?yc17⟩) hHeld ?_
      case yc17 => intro w hSw; go_simp
      simp only [Act.put, List.getElem_toArray, List.getElem_cons_succ, List.getElem_cons_zero, List.setIfInBounds_toArray, List.set_cons_zero, List.set_cons_succ]
      refine wpAnyH_take (i := 18) (v := u) rfl (by kernel_rfl) (by kernel_rfl) (by kernel_rfl) (fun _ _ _ h => h) (Or.inl ⟨by rfl, ?yc18⟩) hHeld ?_
      case yc18 => intro w hSw; have q := sr0 hSw; have q0 := q.1; have q1 := q.2.1; have q2 := q.2.2; go_simp
      simp only [Act.put, List.getElem_toArray, List.getElem_cons_succ, List.getElem_cons_zero, List.setIfInBounds_toArray, List.set_cons_zero, List.set_cons_succ]
      refine wpAnyH_ready (rs := [7]) (by kernel_rfl) (by simp) ?_
      refine AllReadyH.cons rfl (fun K hK => ?_) AllReadyH.nil
      rw [if_pos (by rfl)]
      simp only [List.getElem_toArray, List.getElem_cons_succ, List.getElem_cons_zero]
      go_wp2_with fail
      refine (H1.out _ CW.out.low).mono ?_
      rintro e w1 ⟨F1, u1, hret, g1, n1, z1, hb1⟩
      obtain ⟨a1, c1, rfl⟩ := g1.shape
      obtain rfl : e = .returned (.agg #[.int .i64 h.x1.h.k, .int .i64 h.x1.h.n, .string h.x1.h.s, .slice a1 (elen F1) c1]) := hret
      have G1 := Lib.hid g1
      have C1 := Lib.hid (CW.out.later hb1)
      have s1 := hb1.size
      clear g1
      go_wp2_with fail
      refine hK.out _ _ (rangeAt_later hHeld hb1) (fun hHeld => ?_)
      try simp only [Act.put, List.getElem_toArray, List.getElem_cons_succ, List.getElem_cons_zero, List.setIfInBounds_toArray, List.set_cons_zero, List.set_cons_succ]
      refine wpAnyH_ready (rs := [10]) (by kernel_rfl) (by simp) ?_
      refine AllReadyH.cons rfl (fun K hK => ?_) AllReadyH.nil
      rw [if_pos (by rfl)]
      simp only [List.getElem_toArray, List.getElem_cons_succ, List.getElem_cons_zero]
      go_wp2_with fail
      refine (H2.out _ C1.out.low).mono ?_
      rintro e w2 ⟨F2, u2, hret, g2, n2, z2, hb2⟩
      obtain ⟨a2, c2, rfl⟩ := g2.shape
      obtain rfl : e = .returned (.agg #[.int .i64 h.x2.h.k, .int .i64 h.x2.h.n, .string h.x2.h.s, .slice a2 (elen F2) c2]) := hret
      have G2 := Lib.hid g2
      have C2 := Lib.hid (C1.out.later hb2)
      have s2 := hb2.size
      clear g2
      go_wp2_with fail
      refine hK.out _ _ (rangeAt_later hHeld hb2) (fun hHeld => ?_)
      try simp only [Act.put, List.getElem_toArray, List.getElem_cons_succ, List.getElem_cons_zero, List.setIfInBounds_toArray, List.set_cons_zero, List.set_cons_succ]
      refine wpAnyH_ready (rs := [13]) (by kernel_rfl) (by simp) ?_
      refine AllReadyH.cons rfl (fun K hK => ?_) AllReadyH.nil
      rw [if_pos (by rfl)]
      simp only [List.getElem_toArray, List.getElem_cons_succ, List.getElem_cons_zero]
      go_wp2_with fail
      refine (H3.out _ C2.out.low).mono ?_
      rintro e w3 ⟨F3, u3, hret, g3, n3, z3, hb3⟩
      obtain ⟨a3, c3, rfl⟩ := g3.shape
      obtain rfl : e = .returned (.agg #[.int .i64 h.x3.h.k, .int .i64 h.x3.h.n, .string h.x3.h.s, .slice a3 (elen F3) c3]) := hret
      have G3 := Lib.hid g3
      have C3 := Lib.hid (C2.out.later hb3)
      have s3 := hb3.size
      clear g3
      go_wp2_with fail
      refine hK.out _ _ (rangeAt_later hHeld hb3) (fun hHeld => ?_)
      try simp only [Act.put, List.getElem_toArray, List.getElem_cons_succ, List.getElem_cons_zero, List.setIfInBounds_toArray, List.set_cons_zero, List.set_cons_succ]
      refine wpAnyH_ready (rs := [16]) (by kernel_rfl) (by simp) ?_
      refine AllReadyH.cons rfl (fun K hK => ?_) AllReadyH.nil
      rw [if_pos (by rfl)]
      simp only [List.getElem_toArray, List.getElem_cons_succ, List.getElem_cons_zero]
      go_wp2_with fail
      refine (H4.out _ C3.out.low).mono ?_
      rintro e w4 ⟨F4, u4, hret, g4, n4, z4, hb4⟩
      obtain ⟨a4, c4, rfl⟩ := g4.shape
      obtain rfl : e = .returned (.agg #[.int .i64 h.x4.h.k, .int .i64 h.x4.h.n, .string h.x4.h.s, .slice a4 (elen F4) c4]) := hret
      have G4 := Lib.hid g4
      have C4 := Lib.hid (C3.out.later hb4)
      have s4 := hb4.size
      clear g4
      go_wp2_with fail
      refine hK.out _ _ (rangeAt_later hHeld hb4) (fun hHeld => ?_)
      try simp only [Act.put, List.getElem_toArray, List.getElem_cons_succ, List.getElem_cons_zero, List.setIfInBounds_toArray, List.set_cons_zero, List.set_cons_succ]
      refine wpAnyH_ready (rs := [19]) (by kernel_rfl) (by simp) ?_
      refine AllReadyH.cons rfl (fun K hK => ?_) AllReadyH.nil
      rw [if_pos (by rfl)]
      simp only [List.getElem_toArray, List.getElem_cons_succ, List.getElem_cons_zero]
      go_wp2_with fail
      refine (H5.out _ C4.out.low).mono ?_
      rintro e w5 ⟨G, ug, rfl, gg, lg, ng, zg, hb5⟩
      obtain ⟨ga, gc, rfl⟩ := gg.shape
      have C5 := Lib.hid (C4.out.later hb5)
      have s5 := hb5.size
      have LG := Lib.hid (And.intro lg (And.intro ng zg))
      clear lg ng zg
      go_wp2_with fail
      refine hK.out _ _ (rangeAt_later hHeld hb5) (fun hHeld => ?_)
      try simp only [Act.put, List.getElem_toArray, List.getElem_cons_succ, List.getElem_cons_zero, List.setIfInBounds_toArray, List.set_cons_zero, List.set_cons_succ]
      refine wpAnyH_take (i := 20) (v := .agg #[.int .i64 h.k, .string h.s, .int .i64 h.x1.h.k, .int .i64 h.x1.h.n, .string h.x1.h.s, (.slice a1 (elen F1) c1), .int .i64 h.x2.h.k, .int .i64 h.x2.h.n, .string h.x2.h.s, (.slice a2 (elen F2) c2), .int .i64 h.x3.h.k, .int .i64 h.x3.h.n, .string h.x3.h.s, (.slice a3 (elen F3) c3), .int .i64 h.x4.h.k, .int .i64 h.x4.h.n, .string h.x4.h.s, (.slice a4 (elen F4) c4), (.slice ga (slen G) gc)]) rfl (by kernel_rfl) (by kernel_rfl) (by kernel_rfl) (fun _ _ _ h => h) (Or.inl ⟨by rfl, ?yc20⟩) hHeld ?_
      case yc20 => intro w hSw; go_simp
      simp only [Act.put, List.getElem_toArray, List.getElem_cons_succ, List.getElem_cons_zero, List.setIfInBounds_toArray, List.set_cons_zero, List.set_cons_succ]
      obtain ⟨h', hh⟩ : ∃ h' : SH, h' = ⟨h.k, h.s, ⟨h.x1.h, F1⟩, ⟨h.x2.h, F2⟩, ⟨h.x3.h, F3⟩, ⟨h.x4.h, F4⟩⟩ := ⟨_, rfl⟩
      have HE : Hid (HV w5 wr.heap.size h' (.slice a1 (elen F1) c1) (.slice a2 (elen F2) c2) (.slice a3 (elen F3) c3) (.slice a4 (elen F4) c4) ∧ SV w5 wr.heap.size G (.slice ga (slen G) gc)) := Lib.hid (by rw [hh]; exact ⟨⟨((((G1.out.later hb2).later hb3).later hb4).later hb5).lower hWz, (((G2.out.later hb3).later hb4).later hb5).lower (by have := bd.size; omega), ((G3.out.later hb4).later hb5).lower (by have := bd.size; omega), (G4.out.later hb5).lower (by have := bd.size; omega)⟩, gg.lower (by have := bd.size; omega)⟩)
      have hcs : scells h' (.slice a1 (elen F1) c1) (.slice a2 (elen F2) c2) (.slice a3 (elen F3) c3) (.slice a4 (elen F4) c4) (.slice ga (slen G) gc) = [.int .i64 h.k, .string h.s, .int .i64 h.x1.h.k, .int .i64 h.x1.h.n, .string h.x1.h.s, (.slice a1 (elen F1) c1), .int .i64 h.x2.h.k, .int .i64 h.x2.h.n, .string h.x2.h.s, (.slice a2 (elen F2) c2), .int .i64 h.x3.h.k, .int .i64 h.x3.h.n, .string h.x3.h.s, (.slice a3 (elen F3) c3), .int .i64 h.x4.h.k, .int .i64 h.x4.h.n, .string h.x4.h.s, (.slice a4 (elen F4) c4), (.slice ga (slen G) gc)] := by rw [hh]; rfl
      have HH : Hid (hsize h' = hsize h) := Lib.hid (by rw [hh]; simp only [hsize, xsize, z1, z2, z3, z4])
      clear gg hb1 hb2 hb3 hb4 hb5 G1 G2 G3 G4 CW C1 C2 C3 C4 bd
      refine wpAnyH_ready (rs := [21]) (by kernel_rfl) (by simp) ?_
      refine AllReadyH.cons rfl (fun K hK => ?_) AllReadyH.nil
      rw [if_pos (by rfl)]
      simp only [List.getElem_toArray, List.getElem_cons_succ, List.getElem_cons_zero]
      go_wp2_with fail
      refine hK.out _ _ (World.rangeAt_alloc hHeld _) (fun hHeld => ?_)
      try simp only [Act.put, List.getElem_toArray, List.getElem_cons_succ, List.getElem_cons_zero, List.setIfInBounds_toArray, List.set_cons_zero, List.set_cons_succ]
      refine wpAnyH_ready (rs := [22]) (by kernel_rfl) (by simp) ?_
      refine AllReadyH.cons rfl (fun K hK => ?_) AllReadyH.nil
      rw [if_pos (by rfl)]
      simp only [List.getElem_toArray, List.getElem_cons_succ, List.getElem_cons_zero]
      refine wp_append_lies _ _ _ 28 (by rfl) w.heap.size 30 i0 _ 19 272 Try.underlying28 HI.out.1 HI.out.2.1 HI.out.2.2.1 HI.out.2.2.2 rfl (by decide) _ _ _ (by rfl) (C5.out.own.alloc _) ⟨w5.heap.size, 0, Option.none⟩ 1 1 [.int .i64 h.k, .string h.s, .int .i64 h.x1.h.k, .int .i64 h.x1.h.n, .string h.x1.h.s, (.slice a1 (elen F1) c1), .int .i64 h.x2.h.k, .int .i64 h.x2.h.n, .string h.x2.h.s, (.slice a2 (elen F2) c2), .int .i64 h.x3.h.k, .int .i64 h.x3.h.n, .string h.x3.h.s, (.slice a3 (elen F3) c3), .int .i64 h.x4.h.k, .int .i64 h.x4.h.n, .string h.x4.h.s, (.slice a4 (elen F4) c4), (.slice ga (slen G) gc)] (by rfl) (by rfl) ?k1 ?k2 (by decide) ?k3 ?k4 ?k5 (w5.heap.size + 1) (by simp) ?_
      case k1 => exact newsN _ _ _
      case k2 => rw [← hcs]; exact ones19 HE.out.1 HE.out.2
      case k3 => unfold maxLen; omega
      case k4 => omega
      case k5 => have := C5.out.low.size; simp; omega
      intro g c6 w6 hown6 hgrow6 hat6 hlt6
      have hown7 := hown6
      rw [← hcs] at hown7
      have C6 := Lib.hid (C5.out.next (p := 0) (q := 0) (wr := wr) hgl hwz HE.out.1 HE.out.2 hown7 hgrow6 (by rcases hat6 with e | e; exact .inl e; exact .inr (by omega)))
      refine hK.out _ _ (range_grown hHeld hgrow6 (fun e => by have := hgl; simp only [gOf, e, Option.getD_some] at this; omega)) (fun hHeld => ?_)
      clear hown6 hown7 hgrow6 hat6 hlt6 hcs
      simp only [Act.put, List.getElem_toArray, List.getElem_cons_succ, List.getElem_cons_zero, List.setIfInBounds_toArray, List.set_cons_zero, List.set_cons_succ]
      refine wpAnyH_take (i := 23) (v := .slice (some ⟨g, 0, Option.none⟩) (slen P + 1) c6) rfl (by kernel_rfl) (by kernel_rfl) (by kernel_rfl) (fun _ _ _ h => h) (Or.inl ⟨by rfl, ?y23⟩) hHeld ?_
      case y23 => intro w hSw; go_simp
      simp only [Act.put, List.getElem_toArray, List.getElem_cons_succ, List.getElem_cons_zero, List.setIfInBounds_toArray, List.set_cons_zero, List.set_cons_succ]
      refine wpAnyH_done (by kernel_rfl) ?_ _
      clear hHeld H1 H2 H3 H4 H5
      go_wp2
      go_roundw
      case rel => exact ⟨sapp P (.node 0 0 h' G .nil), r, _, k + 1, by go_num, ⟨He.out.1.1, by have := He.out.1.2; rw [slen_app]; simp only [slen]; omega, by have := He.out.2.1; have := LG.out.2.1; rw [snodes_app]; simp only [snodes]; omega, by have := He.out.2.2.1; have := HH.out; have := LG.out.2.2; rw [ssize_app]; simp only [ssize]; omega, He.out.2.2.2⟩, C6⟩
      case measure => simp [RowKit.intOf]; omega
theorem l3Copy_all : ∀ (m : Nat) (F : SF), snodes F < m → ssize F ≤ 1048576 → ∀ (w : World) (v : Value), 0 < w.heap.size → SV w 0 F v → Calls Try.prog 25 #[v] w (CopiedS F w)
  | 0, _, h => absurd h (by omega)
  | m + 1, F, h => fun hF w v h0 hv => l3Copy_step F hF (fun F' h' hF' w v h0 hv => l3Copy_all m F' (by omega) hF' w v h0 hv) w v h0 hv
end Go.Proofs.Ytkhccpjkajhnpaa
/-
  A local variable that holds a statement: it begins with a drawn one, one more is put behind its body, it becomes the body of a loop (for l3AnyStmt).
-/
namespace Go.Proofs.Ytkhccpjkajhnpaa
open Go.RowKit Go.Lib
set_option linter.unusedSimpArgs false
set_option linter.unusedVariables false

theorem SVx.of_old {n lo b : Nat} {w2 w : World} {F : SF} {v : Value} (h : SV w2 lo F v) (hw : Wr b w2 w) (hb : b + 1 ≤ lo) (hn : w2.heap.size ≤ n) : SVx n w lo F v := fun W hW =>
  h.same (Nat.le_refl _) fun a u hl hc => hW a u hl (by have := lt_of_cellA hc; omega) (hw.keeps a u (by omega) hc)
theorem VarS.start2 {B : Nat} {a : Option Addr} {len cap b : Nat} {w0 w1 W : World} {N : Nat} {t : TypeId} {h : SH} {l : SF} {v1 v2 v3 v4 v : Value} (hN : w0.heap.size = N) (hb : b < N) (d : Dw B a len cap b w1) (hw : Wr b w0 w1) (hth : w1.there N 0 19) (he : HV w1 (N + 1) h v1 v2 v3 v4) (hs : SV w1 (N + 1) l v)
    (hW : (w1.alloc (.cells zero19 t)).setCells w1.heap.size 0 (scells h v1 v2 v3 v4 v) = W) : VarS B a len cap b w0 N w1.heap.size h l v1 v2 v3 v4 v W ∧ Below w1.heap.size w1 W := by
  have hn := newblkS h v1 v2 v3 v4 v hW
  have hwr : Wr b w1 W := .of_below hn.2
  have hle : b + 1 ≤ N + 1 := by omega
  exact ⟨⟨hn.1, by rw [← hW]; exact World.there_setCells (newthere w1 t) _ _ _, ⟨EVx.of_old he.e1 hwr hle (Nat.le_refl _), EVx.of_old he.e2 hwr hle (Nat.le_refl _), EVx.of_old he.e3 hwr hle (Nat.le_refl _), EVx.of_old he.e4 hwr hle (Nat.le_refl _)⟩, SVx.of_old hs hwr hle (Nat.le_refl _), d.later hn.2, hw.trans hwr, there_later hth hn.2, hN, by have := lt_there19 hth; omega, hb⟩, hn.2⟩
theorem SRx.to {g lo : Nat} {w W : World} (f1 : ∀ (F : EF) (v : Value), EVx g w lo F v → EV W lo F v) (f2 : ∀ (F : SF) (v : Value), SVx g w lo F v → SV W lo F v) : ∀ {F : SF} {xs : List Value}, SRx g w lo F xs → SRow W lo F xs
  | .nil, _, h => h
  | .node _ _ _ l r, _, ⟨v1, v2, v3, v4, v, ys, e, h1, h2, h⟩ => ⟨v1, v2, v3, v4, v, ys, e, f1 _ _ h1.e1, f1 _ _ h1.e2, f1 _ _ h1.e3, f1 _ _ h1.e4, f2 l v h2, SRx.to f1 f2 h⟩
/-- One more behind the body: the row lies there whatever the variable's block holds. -/
theorem SVx.more {N n g c m p q : Nat} {w1 w3 w6 : World} {l l' : SF} {h' : SH} {v u1 u2 u3 u4 u : Value} {xs : List Value} (row : SRx (gOf v) w1 (N + 1) l xs) (hn : w1.heap.size = n)
    (k16 : ∀ (a : Addr) z, N + 1 ≤ a.block → a.block ≠ gOf v → w1.cell? a = some z → w6.cell? a = some z) (he : HV w3 m h' u1 u2 u3 u4) (hs : SV w3 m l' u) (hm : n < m) (hNn : N < n)
    (k36 : ∀ (a : Addr) z, m ≤ a.block → w3.cell? a = some z → w6.cell? a = some z) (hown : w6.ownsRow (N + 1) 30 19 (.slice (some ⟨g, 0, Option.none⟩) (slen l + 1) c) (slen l + 1) (xs ++ scells h' u1 u2 u3 u4 u)) (hgn : g ≠ n) (hgN : N + 1 ≤ g) :
    SVx n w6 (N + 1) (sapp l (.node p q h' l' .nil)) (.slice (some ⟨g, 0, Option.none⟩) (slen l + 1) c) := fun W hW => by
  have f1 : ∀ (F : EF) (z : Value), EVx (gOf v) w1 (N + 1) F z → EV W (N + 1) F z := fun F z e => e W fun a y h1 h2 hc => hW a y h1 (by have := lt_of_cellA hc; omega) (k16 a y h1 h2 hc)
  have f2 : ∀ (F : SF) (z : Value), SVx (gOf v) w1 (N + 1) F z → SV W (N + 1) F z := fun F z e => e W fun a y h1 h2 hc => hW a y h1 (by have := lt_of_cellA hc; omega) (k16 a y h1 h2 hc)
  have k3W : ∀ (a : Addr) z, m ≤ a.block → w3.cell? a = some z → W.cell? a = some z := fun a z h1 hc => hW a z (by omega) (by omega) (k36 a z h1 hc)
  have hml : N + 1 ≤ m := by omega
  have r2 : SRow W (N + 1) (.node p q h' l' .nil) (scells h' u1 u2 u3 u4 u) := SRow.one (he.e1.same hml k3W) (he.e2.same hml k3W) (he.e3.same hml k3W) (he.e4.same hml k3W) (hs.same hml k3W)
  refine ⟨g, 0, _, c, by rw [slen_app]; rfl, .inl rfl, hgN, SRow.laid 0 ((SRx.to f1 f2 row).app r2) fun j z hj => ?_⟩
  have hc := hown.cells (g := g) rfl j z hj
  rw [Go.WideShapes.add_plain] at hc
  exact hW _ _ hgN hgn hc
theorem there_blk {w w' : World} {n o m : Nat} (h : w.there n o m) (e : w'.heap[n]? = w.heap[n]?) : w'.there n o m := fun j hj => by
  obtain ⟨h1, h2⟩ := h j hj
  refine ⟨by rw [World.cell?_of_block (a := ⟨n, o + j, Option.none⟩) e]; exact h1, ?_⟩
  rw [← h2]
  unfold World.frozen?
  simp only [e]
theorem range_blk {w w' : World} {n o : Nat} {cs : List Value} (h : w.rangeAt n o cs) (e : w'.heap[n]? = w.heap[n]?) : w'.rangeAt n o cs := fun j v hv => by
  rw [World.cell?_of_block (a := ⟨n, o + j, Option.none⟩) e]; exact h j v hv
section
variable {B : Nat} {a : Option Addr} {len cap b : Nat} {w0 : World} {N n : Nat} {h : SH} {l : SF} {v1 v2 v3 v4 v : Value} {w : World}
/-- The body is set, whatever it was. -/
theorem VarS.body {P : SF} {u : Value} (rg : w.rangeAt n 0 (scells h v1 v2 v3 v4 v)) (th : w.there n 0 19) (ex : HVx n w (N + 1) h v1 v2 v3 v4) (sx : SVx n w (N + 1) P u) (dw : Dw B a len cap b w) (wr : Wr b w0 w) (thN : w.there N 0 19) (hN : w0.heap.size = N) (hn : N < n) (hb : b < N) :
    VarS B a len cap b w0 N n h P v1 v2 v3 v4 u (w.setCell ⟨n, 18, Option.none⟩ u) := by
  have e : w.setCell ⟨n, 18, Option.none⟩ u = w.setCells n 18 [u] := rfl
  rw [e]
  have hB : Below n w (w.setCells n 18 [u]) := below_sets _ _ (Below.refl _ _) (Nat.le_refl _)
  have hsz : w.heap.size ≤ (w.setCells n 18 [u]).heap.size := by rw [size_sets]; exact Nat.le_refl _
  refine ⟨?_, World.there_setCells th _ _ _, ex.map (fun _ _ e => e.sets _ _), sx.sets _ _, ⟨dw.hlen, dw.hB, dw.hC.later (hB.mono (by have := dw.hB; omega)), dw.cur.later (hB.block b (by omega))⟩, ⟨hB.os.trans wr.os, hB.tape.trans wr.tape, hB.output.trans wr.output, Nat.le_trans wr.size hsz, fun k hk hne => (hB.block k (by omega)).trans (wr.block k hk hne)⟩, World.there_setCells thN _ _ _, hN, hn, hb⟩
  have hth : w.there n 18 1 := by have := there_part th 18 1 (by omega); rwa [Nat.zero_add] at this
  intro j z hj
  rw [Nat.zero_add]
  by_cases h1 : j < 18
  · rw [World.cell?_setCells_out n [u] 18 w ⟨n, j, Option.none⟩ (fun _ _ => by simp only []; omega)]
    have := rg j z (by
      have e1 : scells h v1 v2 v3 v4 u = (scells h v1 v2 v3 v4 v).take 18 ++ [u] := rfl
      rw [e1, List.getElem?_append_left (by simp [scells, xcells]; omega), List.getElem?_take_of_lt h1] at hj
      exact hj)
    rwa [Nat.zero_add] at this
  · obtain ⟨hl, hz⟩ := List.getElem?_eq_some_iff.1 hj
    have hj18 : j = 18 := by simp [scells, xcells] at hl; omega
    subst hj18
    have : z = u := by simpa [scells, xcells] using hz.symm
    subst this
    exact World.rangeAt_setCells_same w n 18 [z] hth 0 z rfl
/-- One more behind the body. -/
theorem VarS.more {w1 w3 w6 : World} {m g c p q : Nat} {l' : SF} {h' : SH} {u1 u2 u3 u4 u : Value} {xs : List Value} {o : Obj} (s : VarS B a len cap b w0 N n h l v1 v2 v3 v4 v w3) (hn1 : w1.heap.size = n) (hx : HVx (gOf v) w1 (N + 1) h v1 v2 v3 v4) (own : w1.ownsRow (N + 1) 30 19 v (slen l) xs) (row : SRx (gOf v) w1 (N + 1) l xs)
    (k13 : ∀ (a : Addr) z, N + 1 ≤ a.block → w1.cell? a = some z → w3.cell? a = some z) (he : HV w3 m h' u1 u2 u3 u4) (hs : SV w3 m l' u) (hm : n < m)
    (hown : w6.ownsRow (N + 1) 30 19 (.slice (some ⟨g, 0, Option.none⟩) (slen l + 1) c) (slen l + 1) (xs ++ scells h' u1 u2 u3 u4 u)) (hg : (w3.alloc o).grownBy w6 v.ownBlock) (hat : v.ownBlock = some g ∨ w3.heap.size + 1 ≤ g) :
    VarS B a len cap b w0 N n h (sapp l (.node p q h' l' .nil)) v1 v2 v3 v4 (.slice (some ⟨g, 0, Option.none⟩) (slen l + 1) c) (w6.setCell ⟨n, 18, Option.none⟩ (.slice (some ⟨g, 0, Option.none⟩) (slen l + 1) c)) := by
  have hlt := s.lt
  have hN0 : 0 < N := by have := s.hb; omega
  have hgo : ∀ k, v.ownBlock = some k → gOf v = k ∧ N + 1 ≤ k ∧ k < n := fun k hk => ⟨by unfold gOf; rw [hk]; rfl, by rw [← hn1]; exact own.lt k hk⟩
  have hb1 := alloc_below w3 o
  have blk : ∀ k, k < w3.heap.size → k ≠ gOf v → w6.heap[k]? = w3.heap[k]? := fun k h1 h2 => (hg.block k (by simp; omega) (fun e => h2 (hgo k e.symm).1.symm)).trans (hb1.block k h1)
  have hgv : gOf v < n := by
    cases e : v.ownBlock with
    | none => unfold gOf; rw [e]; show 0 < n; have := s.hn; omega
    | some k => have := hgo k e; omega
  have c36 : ∀ (a : Addr) z, a.block ≠ gOf v → w3.cell? a = some z → w6.cell? a = some z := fun a z h1 hc => by rw [World.cell?_of_block (blk a.block (lt_of_cellA hc) h1)]; exact hc
  have hgN : N + 1 ≤ g ∧ g ≠ n := by
    rcases hat with e | e
    · have := hgo g e; omega
    · have := s.hn; omega
  have hgvN : gOf v = 0 ∨ N + 1 ≤ gOf v := by
    cases e : v.ownBlock with
    | none => left; unfold gOf; rw [e]; rfl
    | some k => right; have := hgo k e; omega
  have k16 : ∀ (a : Addr) z, N + 1 ≤ a.block → a.block ≠ gOf v → w1.cell? a = some z → w6.cell? a = some z := fun a z h1 h2 hc => c36 a z h2 (k13 a z h1 hc)
  have hBel : Below (N + 1) w3 w6 := (hb1.mono (by have := s.hn; omega)).grown hg (by have := s.hn; simp; omega) (fun k hk => (hgo k hk).2.1)
  refine VarS.body (range_blk s.rg (blk n hlt (by omega))) (there_blk s.th (blk n hlt (by omega))) ?_ ?_ ⟨s.dw.hlen, s.dw.hB, s.dw.hC.later (hBel.mono (by have := s.dw.hB; have := s.hb; omega)), s.dw.cur.later (hBel.block b (by have := s.hb; omega))⟩ ?_ (there_blk s.thN (blk N (by have := s.hn; omega) (by omega))) s.hN s.hn s.hb
  · exact hx.map fun F z e => fun W hW => e W fun a y h1 h2 hc => hW a y h1 (by have := lt_of_cellA hc; omega) (k16 a y h1 h2 hc)
  · exact SVx.more row hn1 k16 he hs hm s.hn (fun a z h1 hc => c36 a z (by omega) hc) hown hgN.2 hgN.1
  · exact ⟨hBel.os.trans s.wr.os, hBel.tape.trans s.wr.tape, hBel.output.trans s.wr.output, Nat.le_trans s.wr.size hBel.size, fun k hk hne => (hBel.block k (by have := s.hN; omega)).trans (s.wr.block k hk hne)⟩
theorem VarS.more18 {w1 w3 w6 : World} {xs : List Value} {o : Obj} (s : VarS B a len cap b w0 N n h l v1 v2 v3 v4 v w3) (hn1 : w1.heap.size = n) (own : w1.ownsRow (N + 1) 30 19 v (slen l) xs) (hg : (w3.alloc o).grownBy w6 v.ownBlock) :
    w6.cell? ⟨n, 18, Option.none⟩ = some v ∧ w6.frozen? ⟨n, 18, Option.none⟩ = false := by
  have hlt := s.lt
  have e : w6.heap[n]? = w3.heap[n]? := (hg.block n (by simp; omega) (fun e => by have := (own.lt n e.symm).2; omega)).trans ((alloc_below w3 o).block n hlt)
  have r := range_blk s.rg e 18 _ rfl
  have t := (there_blk s.th e 18 (by omega)).2
  simp only [Nat.zero_add] at r t
  exact ⟨r, t⟩
/-- It becomes the body of a loop. -/
theorem VarS.wrap {w5 : World} {h' : SH} {u1 u2 u3 u4 : Value} {g p q : Nat} (s : VarS B a len cap b w0 N n h l v1 v2 v3 v4 v w) (hb5 : Below w.heap.size w w5) (hg : w.heap.size ≤ g) (rg : w5.rangeAt g 0 (scells h v1 v2 v3 v4 v)) (he : HVx n w5 (N + 1) h' u1 u2 u3 u4) :
    VarS B a len cap b w0 N n h' (.node p q h l .nil) u1 u2 u3 u4 (.slice (some ⟨g, 0, Option.none⟩) 1 1) (w5.setCells n 0 (scells h' u1 u2 u3 u4 (.slice (some ⟨g, 0, Option.none⟩) 1 1))) := by
  have s5 := s.later hb5
  have hlt := s.lt
  refine s5.put 0 _ (by simp [scells, xcells]) (by simp [scells, xcells]) he ?_
  intro W hW
  have k : ∀ (a : Addr) z, N + 1 ≤ a.block → a.block ≠ n → w.cell? a = some z → W.cell? a = some z := fun a z h1 h2 hc => hW a z h1 h2 (keeps hb5 hc)
  refine ⟨g, 0, _, 1, rfl, .inl rfl, by have := s.hn; omega, SRow.laid 0 (SRow.one (s.ex.e1 W k) (s.ex.e2 W k) (s.ex.e3 W k) (s.ex.e4 W k) (s.sx W k)) fun j z hj => ?_⟩
  have := rg j z hj
  exact hW _ _ (by show N + 1 ≤ g; have := s.hn; omega) (by show g ≠ n; omega) this
end
end Go.Proofs.Ytkhccpjkajhnpaa
/-
  The contract of l3Any: an expression that is drawn, and turned in one of its parts.
-/
namespace Go.Proofs.Ytkhccpjkajhnpaa
open Go.RowKit Go.Lib
set_option linter.unusedSimpArgs false
set_option linter.unusedVariables false

set_option maxHeartbeats 4000000 in
set_option maxRecDepth 100000 in
theorem l3Any_is (B : Nat) (a : Option Addr) (len cap b : Nat) (w : World) (hdw : Dw B a len cap b w) : Calls Try.prog 21 #[.pointer (some ⟨b, 0, none⟩)] w (Drawn B a len cap b limA w) := by
  have HD := Lib.hid hdw
  have hbN := hdw.cur.lt
  clear hdw
  go_enter Try.func21, Try.ntmps21
  go_wp2_with fail
  have b0 := alloc_below w (.cells zero4 26)
  refine (l3Draw_all B a len cap b 3 (by omega) _ (HD.out.later b0)).mono ?_
  rintro e w2 ⟨x2, u2, rfl, g2, s2, d2, wr2⟩
  have hsz : xsize x2 ≤ 60 := s2
  have th2 : w2.there w.heap.size 0 4 := there_wr (newthere4 w 26) wr2 (by omega)
  have wr0 : Wr b w w2 := (Wr.of_below b0).trans wr2
  have g2' : EV w2 (w.heap.size + 1) x2.l u2 := g2.lower (by simp)
  have i2 := g2.isOne
  have HE := Lib.hid (And.intro g2' (And.intro d2 (And.intro wr0 (And.intro th2 hsz))))
  clear b0 g2 s2 d2 wr2 hsz th2 wr0 g2'
  go_wp2_with (refine store_abs rfl 26 _ _ rfl _ _ _ rfl rfl ?hta sizeIE2 ?hoa ?_; exact (newthere4 w2 _); exact (oneX x2 u2 i2); intro W3 hW; have HW3 := Lib.hid (newblk4 x2 u2 hW); have HT3 : Hid (W3.there w2.heap.size 0 4) := (by rw [← hW]; exact World.there_setCells (newthere4 w2 _) _ _ _); clear hW)
  obtain ⟨n3, hn3⟩ : ∃ n, w2.heap.size = n := ⟨_, rfl⟩
  have hNn : w.heap.size < n3 := by have := lt_there HE.out.2.2.2.1; omega
  have V3 : Hid (VarX B a len cap b w w.heap.size n3 x2 u2 W3) := ⟨by rw [← hn3]; exact HW3.out.1, by rw [← hn3]; exact HT3.out, EVx.of_old (b := b) HE.out.1 (.of_below HW3.out.2) (by omega) (Nat.le_of_eq hn3), HE.out.2.1.later HW3.out.2, HE.out.2.2.1.trans (.of_below HW3.out.2), there_later HE.out.2.2.2.1 HW3.out.2, rfl, hNn, hbN⟩
  have HSZ := Lib.hid HE.out.2.2.2.2
  rw [hn3]
  clear HE HW3 HT3 i2 hn3
  refine (l1Below_is B a len cap b 10 _ V3.out.dw (by omega)).mono ?_
  rintro e w4 ⟨y, rfl, ⟨hy0, hy9⟩, d4, wr4⟩
  have V4 := Lib.hid (V3.out.step wr4 d4)
  clear d4 wr4 V3
  obtain hyK | hyK | hyK | hyK | hyK : y = 0 ∨ y = 1 ∨ y = 2 ∨ y = 3 ∨ 4 ≤ y := by omega
  · have q0 : (y == 0) = true := by rw [beq_iff_eq]; omega
    clear hyK hy0 hy9
    go_wp2_with fail
    refine (l1Below_is B a len cap b 10 _ V4.out.dw (by omega)).mono ?_
    rintro e w5 ⟨z, rfl, _, d5, wr5⟩
    have V5 := Lib.hid (V4.out.step wr5 d5)
    obtain ⟨⟨c0, c1, c2, c3⟩, f0, f1, f2⟩ := V5.out.cells
    have V6 := Lib.hid (V5.out.set (y := ⟨⟨z, x2.h.n, x2.h.s⟩, x2.l⟩) 0 (.int .i64 z) (by omega) rfl rfl)
    clear d5 wr5 V4
    go_wp2_with (first | (refine wpList_load_mid rfl 26 _ rfl n3 0 rfl _ _ V6.out.rg Try.underlying26 rfl sizeIE2 ?_) | (refine store_abs rfl 26 _ _ rfl _ _ _ rfl rfl ?htb0 sizeIE2 ?hob0 ?_; exact V6.out.thN; exact (oneX _ _ V6.out.ex.ev.isOne); intro W hW; have HW := Lib.hid (close rfl hbN V6.out.thN V6.out.ex.ev V6.out.dw V6.out.wr hW); clear hW))
    obtain ⟨rg, g1, g2, g3⟩ := HW.out
    have hlv := run_loadVar_mid W w.heap.size 0 _ _ _ rg Try.underlying26 rfl sizeIE2
    refine bodyPost_ret (v := .agg (xcells ((⟨⟨z, x2.h.n, x2.h.s⟩, x2.l⟩ : X)) u2).toArray) ?_ rfl ⟨_, u2, rfl, g1, (by have := HSZ.out; unfold limA; simp only [xsize] at this ⊢; omega), g2, g3⟩
    simp [results, Try.results21, asAddr, hlv, Act.put]
  · have q0 : (y == 0) = false := int_ne (by omega)
    have q1 : (y == 1) = true := by rw [beq_iff_eq]; omega
    clear hyK hy0 hy9
    go_wp2_with fail
    have b5 := alloc_below w4 (.cells (([-1, 999999, 1000000] : List Int).map (Value.int .i64)).toArray 3)
    have hw4 : b < w4.heap.size := V4.out.dw.cur.lt
    refine (l1Int_is B a len cap b w4.heap.size 3 3 (fun _ => True) _ (V4.out.dw.later b5) (by omega) (by omega) (by omega) (fun j hj => ints_cell w4 _ _ okOdd _ rfl j hj)).mono ?_
    rintro e w5 ⟨z, rfl, _, d5, wr5⟩
    have V5 := Lib.hid ((V4.out.later b5).step wr5 d5)
    obtain ⟨⟨c0, c1, c2, c3⟩, f0, f1, f2⟩ := V5.out.cells
    have V6 := Lib.hid (V5.out.set (y := ⟨⟨x2.h.k, z, x2.h.s⟩, x2.l⟩) 1 (.int .i64 z) (by omega) rfl rfl)
    clear d5 wr5 V4 b5 hw4
    go_wp2_with (first | (refine wpList_load_mid rfl 26 _ rfl n3 0 rfl _ _ V6.out.rg Try.underlying26 rfl sizeIE2 ?_) | (refine store_abs rfl 26 _ _ rfl _ _ _ rfl rfl ?htb1 sizeIE2 ?hob1 ?_; exact V6.out.thN; exact (oneX _ _ V6.out.ex.ev.isOne); intro W hW; have HW := Lib.hid (close rfl hbN V6.out.thN V6.out.ex.ev V6.out.dw V6.out.wr hW); clear hW))
    obtain ⟨rg, g1, g2, g3⟩ := HW.out
    have hlv := run_loadVar_mid W w.heap.size 0 _ _ _ rg Try.underlying26 rfl sizeIE2
    refine bodyPost_ret (v := .agg (xcells ((⟨⟨x2.h.k, z, x2.h.s⟩, x2.l⟩ : X)) u2).toArray) ?_ rfl ⟨_, u2, rfl, g1, (by have := HSZ.out; unfold limA; simp only [xsize] at this ⊢; omega), g2, g3⟩
    simp [results, Try.results21, asAddr, hlv, Act.put]
  · have q0 : (y == 0) = false := int_ne (by omega)
    have q1 : (y == 1) = false := int_ne (by omega)
    have q2 : (y == 2) = true := by rw [beq_iff_eq]; omega
    clear hyK hy0 hy9
    go_wp2_with fail
    have b5 := alloc_below w4 (.cells (([⟨#[]⟩, ⟨#[102, 111, 114]⟩, ⟨#[120]⟩] : List ByteArray).map Value.string).toArray 9)
    have hw4 : b < w4.heap.size := V4.out.dw.cur.lt
    refine (l1Str_is B a len cap b w4.heap.size 3 3 (fun z => z.size ≤ 3) _ (V4.out.dw.later b5) (by omega) (by omega) (by omega) (fun j hj => strs_cell w4 _ _ okWords _ rfl j hj)).mono ?_
    rintro e w5 ⟨z, rfl, hz, d5, wr5⟩
    have V5 := Lib.hid ((V4.out.later b5).step wr5 d5)
    obtain ⟨⟨c0, c1, c2, c3⟩, f0, f1, f2⟩ := V5.out.cells
    have V6 := Lib.hid (V5.out.set (y := ⟨⟨x2.h.k, x2.h.n, z⟩, x2.l⟩) 2 (.string z) (by omega) rfl rfl)
    have HZ := Lib.hid hz
    clear d5 wr5 V4 b5 hw4 hz
    go_wp2_with (first | (refine wpList_load_mid rfl 26 _ rfl n3 0 rfl _ _ V6.out.rg Try.underlying26 rfl sizeIE2 ?_) | (refine store_abs rfl 26 _ _ rfl _ _ _ rfl rfl ?htb2 sizeIE2 ?hob2 ?_; exact V6.out.thN; exact (oneX _ _ V6.out.ex.ev.isOne); intro W hW; have HW := Lib.hid (close rfl hbN V6.out.thN V6.out.ex.ev V6.out.dw V6.out.wr hW); clear hW))
    obtain ⟨rg, g1, g2, g3⟩ := HW.out
    have hlv := run_loadVar_mid W w.heap.size 0 _ _ _ rg Try.underlying26 rfl sizeIE2
    refine bodyPost_ret (v := .agg (xcells ((⟨⟨x2.h.k, x2.h.n, z⟩, x2.l⟩ : X)) u2).toArray) ?_ rfl ⟨_, u2, rfl, g1, (by have h1 := HSZ.out; have h2 := HZ.out; unfold limA; simp only [xsize] at h1 ⊢; omega), g2, g3⟩
    simp [results, Try.results21, asAddr, hlv, Act.put]
  · have q0 : (y == 0) = false := int_ne (by omega)
    have q1 : (y == 1) = false := int_ne (by omega)
    have q2 : (y == 2) = false := int_ne (by omega)
    have q3 : (y == 3) = true := by rw [beq_iff_eq]; omega
    clear hyK hy0 hy9
    go_wp2_with fail
    refine (l1Below_is B a len cap b 9 _ V4.out.dw (by omega)).mono ?_
    rintro e w5 ⟨z, rfl, ⟨hz0, hz9⟩, d5, wr5⟩
    have V5 := Lib.hid (V4.out.step wr5 d5)
    clear d5 wr5 V4
    obtain ⟨m, hm⟩ : ∃ m : Nat, z = (m : Int) := ⟨z.toNat, by omega⟩
    subst hm
    go_wp2
    go_loopw [4] (fun i wr => ∃ (k : Nat) (x : X) (u : Value), i = .int .i64 (k : Int) ∧ k ≤ 8 ∧ Hid (VarX B a len cap b w w.heap.size n3 x u wr ∧ xsize x + 2 * k ≤ 100)) (fun i _ => (RowKit.intOf i).toNat)
    case atStart => exact ⟨m, x2, u2, rfl, by omega, ⟨V5.out, by have := HSZ.out; omega⟩⟩
    case round =>
      obtain ⟨k, x, u, rfl, hk8, hV⟩ := hrel
      clear V5
      by_cases hk : k = 0
      · have hk0 : ¬ (0 : Int) < (k : Int) := by omega
        clear hk
        go_wp2_with (first | (refine wpList_load_mid rfl 26 _ rfl n3 0 rfl _ _ hV.out.1.rg Try.underlying26 rfl sizeIE2 ?_) | (refine store_abs rfl 26 _ _ rfl _ _ _ rfl rfl ?htb3 sizeIE2 ?hob3 ?_; exact hV.out.1.thN; exact (oneX _ _ hV.out.1.ex.ev.isOne); intro W hW; have HW := Lib.hid (close rfl hbN hV.out.1.thN hV.out.1.ex.ev hV.out.1.dw hV.out.1.wr hW); clear hW))
        obtain ⟨rg, g1, g2, g3⟩ := HW.out
        have hlv := run_loadVar_mid W w.heap.size 0 _ _ _ rg Try.underlying26 rfl sizeIE2
        refine bodyPost_ret (v := .agg (xcells (x) u).toArray) ?_ rfl ⟨_, u, rfl, g1, (by have := hV.out.2; unfold limA; omega), g2, g3⟩
        simp [results, Try.results21, asAddr, hlv, Act.put]
      · have hk0 : (0 : Int) < (k : Int) := by omega
        clear hk
        go_wp2_with fail
        have bd : Below wr.heap.size wr wr.drew := (Below.refl _ wr).drew
        have Vd := hV.out.1.later bd
        have hsk := hV.out.2
        clear hV bd
        refine wp_region_any (by kernel_rfl) ?_
        refine wpAny_ready (rs := [0, 1]) (by kernel_rfl) (by simp) ?_
        refine AllReady.cons rfl (fun K hK => ?_) (AllReady.cons rfl (fun K hK => ?_) AllReady.nil)
        · rw [if_pos (by rfl)]
          simp only [List.getElem_toArray, List.getElem_cons_succ, List.getElem_cons_zero]
          refine wp_load_mid 26 _ (by rfl) n3 0 (by rfl) _ _ Vd.rg Try.underlying26 rfl sizeIE2 ?_
          refine hK _ _ ?_
          simp only [Act.put, List.getElem_toArray, List.getElem_cons_succ, List.getElem_cons_zero, List.setIfInBounds_toArray, List.set_cons_zero, List.set_cons_succ]
          refine wpAny_ready (rs := [1]) (by kernel_rfl) (by simp) ?_
          refine AllReady.cons rfl (fun K hK => ?_) AllReady.nil
          rw [if_pos (by rfl)]
          simp only [List.getElem_toArray, List.getElem_cons_succ, List.getElem_cons_zero]
          have HK := Lib.hid hK
          clear hK
          go_wp2_with fail
          refine (l3Num_is 1 _).mono ?_
          rintro e w7 ⟨rfl, hb7⟩
          have V7 := Vd.later hb7
          clear hb7
          go_wp2_with fail
          refine HK.out _ _ ?_
          clear HK
          have hw7 : w.heap.size + 1 ≤ w7.heap.size := by have := lt_there V7.thN; omega
          refine wpAny_ready (rs := [2]) (by kernel_rfl) (by simp) ?_
          refine AllReady.cons rfl (fun K hK => ?_) AllReady.nil
          rw [if_pos (by rfl)]
          simp only [List.getElem_toArray, List.getElem_cons_succ, List.getElem_cons_zero]
          have HK := Lib.hid hK
          clear hK
          go_wp2_with fail
          refine (l3Two_at 4 x ⟨⟨1, 1, ⟨#[]⟩⟩, .nil⟩ (w.heap.size + 1) _ u (.slice Option.none 0 0) V7.ex.ev (EV.nil _ _ _ _)).mono ?_
          rintro e w8 ⟨g, rfl, hg, hrg, hb8⟩
          have V8 := V7.later hb8
          have hgn : g ≠ n3 := by have := lt_there V7.th; omega
          have E8 : EVx n3 w8 (w.heap.size + 1) (.node 0 0 x.h x.l (.node 0 0 ⟨1, 1, ⟨#[]⟩⟩ .nil .nil)) (.slice (some ⟨g, 0, Option.none⟩) 2 2) := fun W hW => EV.laidLo (F := .node 0 0 x.h x.l (.node 0 0 ⟨1, 1, ⟨#[]⟩⟩ .nil .nil)) ((ERow.one ((V7.ex.wr (b := b) (.of_below hb8) (by omega)) W hW)).app (P := .node 0 0 x.h x.l .nil) (ERow.one (h := ⟨1, 1, ⟨#[]⟩⟩) (l := .nil) (EV.nil _ _ _ _))) (fun j z hj => hW _ _ (by show w.heap.size + 1 ≤ g; omega) hgn (hrg j z hj)) 2 (by omega)
          have V9 := Lib.hid (V8.sets (y := ⟨⟨4, 0, ⟨#[]⟩⟩, .node 0 0 x.h x.l (.node 0 0 ⟨1, 1, ⟨#[]⟩⟩ .nil .nil)⟩) E8)
          have TH := V8.th
          clear hb8 hrg E8 V8 V7 hgn
          go_wp2_with fail
          refine HK.out _ _ ?_
          clear HK
          refine wpAny_ready (rs := [3]) (by kernel_rfl) (by simp) ?_
          refine AllReady.cons rfl (fun K hK => ?_) AllReady.nil
          rw [if_pos (by rfl)]
          simp only [List.getElem_toArray, List.getElem_cons_succ, List.getElem_cons_zero]
          refine wp_store_mid 26 _ _ rfl _ _ _ rfl rfl ?hsx1 sizeIE2 ?hux1 ?_
          case hsx1 => exact TH
          case hux1 => exact oneX (⟨⟨4, 0, ⟨#[]⟩⟩, .node 0 0 x.h x.l (.node 0 0 ⟨1, 1, ⟨#[]⟩⟩ .nil .nil)⟩ : X) _ rfl
          refine hK _ _ ?_
          simp only [Act.put, List.getElem_toArray, List.getElem_cons_succ, List.getElem_cons_zero, List.setIfInBounds_toArray, List.set_cons_zero, List.set_cons_succ]
          refine wpAny_done (by kernel_rfl) ?_ _
          clear hK TH
          go_wp2
          go_roundw
          case rel => exact ⟨k - 1, _, _, by go_num, by omega, ⟨V9.out, by simp only [xsize, esize] at hsk ⊢; have h0 : (⟨#[]⟩ : ByteArray).size = 0 := rfl; omega⟩⟩
          case measure => simp [RowKit.intOf]; omega
        · rw [if_pos (by rfl)]
          simp only [List.getElem_toArray, List.getElem_cons_succ, List.getElem_cons_zero]
          have HK := Lib.hid hK
          clear hK
          go_wp2_with fail
          refine (l3Num_is 1 _).mono ?_
          rintro e w7 ⟨rfl, hb7⟩
          have V7 := Vd.later hb7
          clear hb7
          go_wp2_with fail
          refine HK.out _ _ ?_
          clear HK
          refine wpAny_ready (rs := [0]) (by kernel_rfl) (by simp) ?_
          refine AllReady.cons rfl (fun K hK => ?_) AllReady.nil
          rw [if_pos (by rfl)]
          simp only [List.getElem_toArray, List.getElem_cons_succ, List.getElem_cons_zero]
          refine wp_load_mid 26 _ (by rfl) n3 0 (by rfl) _ _ V7.rg Try.underlying26 rfl sizeIE2 ?_
          refine hK _ _ ?_
          simp only [Act.put, List.getElem_toArray, List.getElem_cons_succ, List.getElem_cons_zero, List.setIfInBounds_toArray, List.set_cons_zero, List.set_cons_succ]
          have hw7 : w.heap.size + 1 ≤ w7.heap.size := by have := lt_there V7.thN; omega
          refine wpAny_ready (rs := [2]) (by kernel_rfl) (by simp) ?_
          refine AllReady.cons rfl (fun K hK => ?_) AllReady.nil
          rw [if_pos (by rfl)]
          simp only [List.getElem_toArray, List.getElem_cons_succ, List.getElem_cons_zero]
          have HK := Lib.hid hK
          clear hK
          go_wp2_with fail
          refine (l3Two_at 4 x ⟨⟨1, 1, ⟨#[]⟩⟩, .nil⟩ (w.heap.size + 1) _ u (.slice Option.none 0 0) V7.ex.ev (EV.nil _ _ _ _)).mono ?_
          rintro e w8 ⟨g, rfl, hg, hrg, hb8⟩
          have V8 := V7.later hb8
          have hgn : g ≠ n3 := by have := lt_there V7.th; omega
          have E8 : EVx n3 w8 (w.heap.size + 1) (.node 0 0 x.h x.l (.node 0 0 ⟨1, 1, ⟨#[]⟩⟩ .nil .nil)) (.slice (some ⟨g, 0, Option.none⟩) 2 2) := fun W hW => EV.laidLo (F := .node 0 0 x.h x.l (.node 0 0 ⟨1, 1, ⟨#[]⟩⟩ .nil .nil)) ((ERow.one ((V7.ex.wr (b := b) (.of_below hb8) (by omega)) W hW)).app (P := .node 0 0 x.h x.l .nil) (ERow.one (h := ⟨1, 1, ⟨#[]⟩⟩) (l := .nil) (EV.nil _ _ _ _))) (fun j z hj => hW _ _ (by show w.heap.size + 1 ≤ g; omega) hgn (hrg j z hj)) 2 (by omega)
          have V9 := Lib.hid (V8.sets (y := ⟨⟨4, 0, ⟨#[]⟩⟩, .node 0 0 x.h x.l (.node 0 0 ⟨1, 1, ⟨#[]⟩⟩ .nil .nil)⟩) E8)
          have TH := V8.th
          clear hb8 hrg E8 V8 V7 hgn
          go_wp2_with fail
          refine HK.out _ _ ?_
          clear HK
          refine wpAny_ready (rs := [3]) (by kernel_rfl) (by simp) ?_
          refine AllReady.cons rfl (fun K hK => ?_) AllReady.nil
          rw [if_pos (by rfl)]
          simp only [List.getElem_toArray, List.getElem_cons_succ, List.getElem_cons_zero]
          refine wp_store_mid 26 _ _ rfl _ _ _ rfl rfl ?hsx2 sizeIE2 ?hux2 ?_
          case hsx2 => exact TH
          case hux2 => exact oneX (⟨⟨4, 0, ⟨#[]⟩⟩, .node 0 0 x.h x.l (.node 0 0 ⟨1, 1, ⟨#[]⟩⟩ .nil .nil)⟩ : X) _ rfl
          refine hK _ _ ?_
          simp only [Act.put, List.getElem_toArray, List.getElem_cons_succ, List.getElem_cons_zero, List.setIfInBounds_toArray, List.set_cons_zero, List.set_cons_succ]
          refine wpAny_done (by kernel_rfl) ?_ _
          clear hK TH
          go_wp2
          go_roundw
          case rel => exact ⟨k - 1, _, _, by go_num, by omega, ⟨V9.out, by simp only [xsize, esize] at hsk ⊢; have h0 : (⟨#[]⟩ : ByteArray).size = 0 := rfl; omega⟩⟩
          case measure => simp [RowKit.intOf]; omega
  · have q0 : (y == 0) = false := int_ne (by omega)
    have q1 : (y == 1) = false := int_ne (by omega)
    have q2 : (y == 2) = false := int_ne (by omega)
    have q3 : (y == 3) = false := int_ne (by omega)
    clear hyK hy0 hy9
    go_wp2_with (first | (refine wpList_load_mid rfl 26 _ rfl n3 0 rfl _ _ V4.out.rg Try.underlying26 rfl sizeIE2 ?_) | (refine store_abs rfl 26 _ _ rfl _ _ _ rfl rfl ?htb4 sizeIE2 ?hob4 ?_; exact V4.out.thN; exact (oneX _ _ V4.out.ex.ev.isOne); intro W hW; have HW := Lib.hid (close rfl hbN V4.out.thN V4.out.ex.ev V4.out.dw V4.out.wr hW); clear hW))
    obtain ⟨rg, g1, g2, g3⟩ := HW.out
    have hlv := run_loadVar_mid W w.heap.size 0 _ _ _ rg Try.underlying26 rfl sizeIE2
    refine bodyPost_ret (v := .agg (xcells (x2) u2).toArray) ?_ rfl ⟨_, u2, rfl, g1, (by have := HSZ.out; unfold limA; omega), g2, g3⟩
    simp [results, Try.results21, asAddr, hlv, Act.put]
end Go.Proofs.Ytkhccpjkajhnpaa
