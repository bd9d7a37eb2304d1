/-
  The contract of the landed code's bodyFits.
-/
import Derived.Test.YtkilmefpaojkfaaGreatProgStmt
namespace Go.Proofs.YtkilmefpaojkfaaGreat
open Go.RowKit Go.Lib Go.Maps Go.Sort Go.WideMaps
set_option linter.unusedSimpArgs false
set_option linter.unusedVariables false

theorem eFit_iff {arrs : List ByteArray} {ps : List SN} {T : ByteArray → Int} (hT : TT arrs ps T) (h : SH) : (enall (four h)).all (eFitB T) = true ↔ expFits arrs h := by
  rw [four_all, List.all_eq_true]
  constructor
  · intro g a ha
    have := g a ha
    unfold eFitB at this
    simp only [Bool.and_eq_true, Bool.or_eq_true, Bool.not_eq_true', decide_eq_false_iff_not, decide_eq_true_eq] at this
    refine ⟨fun e => ?_, fun e hm => ?_⟩
    · rcases this.1 with c | c
      · exact absurd e c
      · exact (hT.arr _).1 c
    · rcases this.2 with c | c
      · exact absurd e c
      · exact c ((hT.arr _).2 hm)
  · intro g a ha
    obtain ⟨g1, g2⟩ := g a ha
    unfold eFitB
    simp only [Bool.and_eq_true, Bool.or_eq_true, Bool.not_eq_true', decide_eq_false_iff_not, decide_eq_true_eq]
    constructor
    · by_cases e : a.1.k = 3
      · exact .inr ((hT.arr _).2 (g1 e))
      · exact .inl e
    · by_cases e : a.1.k = 2
      · exact .inr (fun c => g2 e ((hT.arr _).1 c))
      · exact .inl e
theorem fit_split {arrs : List ByteArray} {qs : List SN} {R : ByteArray → Bool} {h : SH} {l r : SF} {p q : Nat} :
    (AllFit arrs (qs ++ sall (.node p q h l r)) ∧ nestP (.node p q h l r) R) ↔ (stmtP arrs qs R h l ∧ (AllFit arrs ((qs ++ (h, l) :: sall l) ++ sall r) ∧ nestP r R)) := by
  have e : qs ++ sall (.node p q h l r) = (qs ++ (h, l) :: sall l) ++ sall r := by simp [sall]
  rw [e]
  constructor
  · rintro ⟨a, b, c⟩; exact ⟨⟨a.left, b⟩, a, c⟩
  · rintro ⟨⟨_, b⟩, a, c⟩; exact ⟨a, b, c⟩
theorem stmtP_exp {arrs : List ByteArray} {qs : List SN} {R : ByteArray → Bool} {h : SH} {l : SF} (hp : stmtP arrs qs R h l) : expFits arrs h := (hp.1 (h, l) (by simp)).1
theorem sizeNM : (Tryz.prog.info? 68).map (·.size) = some 2 := by kernel_rfl
/-- Between two rounds. -/
structure Bd (arrs : List ByteArray) (ps : List SN) (F : SF) (R : ByteArray → Bool) (n : Nat) (w0 w wr : World) (tb b o : Nat) (Rr : SF) (j : Nat) (qs : List SN) (T : ByteArray → Int) (m : Nat) : Prop where
  num : j + slen Rr = slen F
  at_ : SIn w0 0 Rr b (o + j * 19)
  things : Rd wr tb m T
  around : Rd wr (tb + 1) m (asInt R)
  few : m + 2 * snodes Rr ≤ n + 2 * snodes F
  sub : snodes Rr ≤ snodes F
  tt : TT arrs qs T
  fit : AllFit arrs qs
  gap : Gap tb (tb + 2) w wr
  nic : nice Rr
  bod : bodies Rr
  iff : (AllFit arrs (qs ++ sall Rr) ∧ nestP Rr R) ↔ (AllFit arrs (ps ++ sall F) ∧ nestP F R)
  same : qs ++ sall Rr = ps ++ sall F
  box : wr.rangeAt w.heap.size 0 [.map (some tb), .map (some (tb + 1))]
set_option maxHeartbeats 4000000 in
set_option maxRecDepth 100000 in
theorem bodyFits_step (F : SF) (ih : ∀ l : SF, snodes l < snodes F → BodyC l) : BodyC F := by
  intro w0 w v tb n arrs ps T R hv h0 hb0 hT hA hn hni hbo hTT hAF
  have B0 := Lib.hid (alloc_below w (.cells #[.map (some tb), .map (some (tb + 1))] 68))
  obtain ⟨b, o, ao, cap, rfl, hao, _, hin⟩ := hv
  have hlenF := slen_le F
  have Hih := Lib.hid ih
  have HB0 := Lib.hid hb0
  have hltA := hA.lt
  have S0 : Hid (Bd arrs ps F R n w0 w (w.alloc (.cells #[.map (some tb), .map (some (tb + 1))] 68)) tb b o F 0 ps T n) :=
    Lib.hid ⟨by omega, by simpa using hin, hT.below B0.out, hA.below B0.out, Nat.le_refl _, Nat.le_refl _, hTT, hAF, Gap.of _ _ B0.out, hni, hbo, Iff.rfl, rfl, blk_range (arr := #[.map (some tb), .map (some (tb + 1))]) (heap_last _ _)⟩
  clear ih hb0 hT hA hni hbo hTT hAF hin
  go_enter Tryz.func39, Tryz.ntmps39
  go_wp2
  go_loopw [9] (fun i wr => ∃ (Rr : SF) (j : Nat) (qs : List SN) (T : ByteArray → Int) (m : Nat), i = .int .i64 (j : Int) ∧ Hid (Bd arrs ps F R n w0 w wr tb b o Rr j qs T m)) (fun i _ => slen F - (RowKit.intOf i).toNat)
  case atStart => exact ⟨F, 0, ps, T, n, rfl, S0⟩
  case round =>
    obtain ⟨Rr, j, qs, T, m, rfl, hr⟩ := hrel
    clear S0
    have e1 := hr.out.num
    cases Rr with
    | nil =>
      have hk : ¬ (j : Int) < (slen F : Int) := by simp only [slen] at e1; omega
      go_wp2
      go_ret
      have hs := hr.out.same
      simp only [sall, List.append_nil] at hs
      have hf := hr.out.few
      simp only [snodes] at hf
      refine ⟨true, rfl, ⟨fun _ => hr.out.iff.1 ⟨by simpa [sall] using hr.out.fit, trivial⟩, fun _ => rfl⟩, hr.out.gap, hr.out.around.more (by omega), fun _ => ⟨T, hr.out.things.more (by omega), by rw [← hs]; exact hr.out.tt⟩⟩
    | node p q h l r =>
      have hlt : (j : Int) < (slen F : Int) := by simp only [slen] at e1; omega
      have hne : ¬ F = .nil := by intro e; subst e; simp only [slen] at e1; omega
      obtain rfl : ao = some ⟨b, o, Option.none⟩ := hao.resolve_right hne
      have hbz : Below w0.heap.size w0 wr := HB0.out.trans (hr.out.gap.below h0 HB0.out.size)
      obtain ⟨v1, v2, v3, v4, u, hv0, hu0, hrg0⟩ := SC.range (SIn_node.1 hr.out.at_).1
      have Hrg := Lib.hid (rangeAt_later hrg0 hbz)
      have HV0 := Lib.hid (And.intro hv0 hu0)
      have o1 := hv0.e1.isOne; have o2 := hv0.e2.isOne; have o3 := hv0.e3.isOne; have o4 := hv0.e4.isOne; have o5 := hu0.isOne
      have f1 := hv0.e1.shape; have f2 := hv0.e2.shape; have f3 := hv0.e3.shape; have f4 := hv0.e4.shape
      have HX : Hid (∀ W, Calls Tryz.prog 32 #[.agg (scells h v1 v2 v3 v4 u).toArray] W fun e w' => ∃ g, e = .returned (.slice (some ⟨g, 0, Option.none⟩) 4 4) ∧ w'.rangeAt g 0 (fcells h v1 v2 v3 v4) ∧ W.heap.size ≤ g ∧ Below W.heap.size W w') := Lib.hid (fun W => expsOf_is h v1 v2 v3 v4 u W (by obtain ⟨a, c, e⟩ := f1; exact ⟨a, _, c, e⟩) (by obtain ⟨a, c, e⟩ := f2; exact ⟨a, _, c, e⟩) (by obtain ⟨a, c, e⟩ := f3; exact ⟨a, _, c, e⟩) (by obtain ⟨a, c, e⟩ := f4; exact ⟨a, _, c, e⟩))
      obtain ⟨hnh, hnl, hne2⟩ := hr.out.nic (h, l) (by simp [sall])
      have hfew := hr.out.few
      have hsub := hr.out.sub
      simp only [snodes] at hfew hsub
      have Hl := Lib.hid (Hih.out l (by omega))
      obtain ⟨bx, Hbx⟩ : ∃ bx, Hid ((enall (four h)).all (eFitB T) = bx) := ⟨_, rfl⟩
      have HE : Hid (∀ (W : World) (g : Nat), Below wr.heap.size wr W → W.rangeAt g 0 (fcells h v1 v2 v3 v4) → Calls Tryz.prog 63 #[nam tb (tb + 1), .slice (some ⟨g, 0, Option.none⟩) 4 4] W fun e w' => e = .returned (.bool bx) ∧ Below W.heap.size W w') := Lib.hid (fun W g hbW hg => by
        rw [← Hbx.out]
        exact expsFit_is (four h) (by rw [four_nodes]; exact hnl) (fun a ha => by rw [four_all] at ha; exact hne2 a ha) tb (tb + 1) m T W _ (laid_four ((hv0.later hbz).later hbW) hg) (hr.out.things.below hbW))
      have HIF := Lib.hid (hr.out.iff.symm.trans fit_split)
      have HS : Hid (bx = true → ∀ (W : World), Below wr.heap.size wr W → Calls Tryz.prog 64 #[nam tb (tb + 1), .agg (scells h v1 v2 v3 v4 u).toArray] W (FitsTo W tb (m + 2 + 2 * snodes l) arrs (qs ++ (h, l) :: sall l) R (stmtP arrs qs R h l))) := Lib.hid (fun hbt W hbW =>
        stmtFits_is h l Hl.out v1 v2 v3 v4 u hnh w0 W tb m arrs qs T R hu0 h0 (hbz.trans (hbW.mono hbz.size)) (hr.out.things.below hbW) (hr.out.around.below hbW) (by omega) (fun a ha => hr.out.nic a (by simp [sall, ha])) hr.out.bod.2.1 hr.out.bod.1 hr.out.tt hr.out.fit ((eFit_iff hr.out.tt h).1 (Hbx.out.trans hbt)))
      have hsz := hr.out.gap.size
      have Hbz := Lib.hid hbz
      have Hbxx := Lib.hid (fun (hp : stmtP arrs qs R h l) => Hbx.out.symm.trans ((eFit_iff hr.out.tt h).2 (stmtP_exp hp)))
      clear hrg0 hv0 hu0 f1 f2 f3 f4 hbz hnh hnl hne2 hne hao Hih
      go_wp2_with (first | (refine wpList_load_mid rfl 57 _ rfl b (o + j * 19) rfl _ _ Hrg.out Tryz.underlying57 rfl sizeIS ?_) | (refine store_abs rfl 57 _ _ rfl _ _ _ rfl rfl ?ht sizeIS ?ho ?_; exact (newthere wr _); exact (oneS h v1 v2 v3 v4 _ o1 o2 o3 o4 o5); intro W hW; have HW := Lib.hid (newblkS h v1 v2 v3 v4 _ hW); clear hW))
      have bd : Below W.heap.size W W.drew := (Below.refl _ W).drew
      have rN := Lib.hid (rangeAt_later hr.out.box HW.out.2)
      have hWz := HW.out.2.size
      have hltN : w.heap.size < wr.heap.size := lt_of_cellA (hr.out.box 0 _ rfl)
      refine wp_region_held_drew (S := fun w' => (w'.rangeAt w.heap.size 0 [.map (some tb), .map (some (tb + 1))] ∧ w'.rangeAt wr.heap.size 0 (scells h v1 v2 v3 v4 u)) ∧ Gap tb (tb + 2) w w') (by kernel_rfl) ⟨⟨(World.rangeAt_drew _ _ _ _).2 rN.out, (World.rangeAt_drew _ _ _ _).2 HW.out.1⟩, hr.out.gap.trans (Gap.of _ _ (HW.out.2.trans (bd.mono HW.out.2.size)))⟩ (fun hHeld => ?_)
      refine wpAnyH_take (i := 0) (v := .agg ([.map (some tb), .map (some (tb + 1))]).toArray) rfl (by kernel_rfl) (by kernel_rfl) (by kernel_rfl) (fun _ _ _ h => h) (yieldsIf_load_mid (by rfl) 68 _ rfl (w.heap.size) (0) rfl ([.map (some tb), .map (some (tb + 1))]) _ (fun w h => h.1.1) Tryz.underlying68 rfl sizeNM) hHeld ?_
      simp only [Act.put, List.getElem_toArray, List.getElem_cons_succ, List.getElem_cons_zero, List.setIfInBounds_toArray, List.set_cons_zero, List.set_cons_succ]
      refine wpAnyH_take (i := 1) (v := .agg (scells h v1 v2 v3 v4 u).toArray) rfl (by kernel_rfl) (by kernel_rfl) (by kernel_rfl) (fun _ _ _ h => h) (yieldsIf_load_mid (by rfl) 57 _ rfl (wr.heap.size) (0) rfl (scells h v1 v2 v3 v4 u) _ (fun w h => h.1.2) Tryz.underlying57 rfl sizeIS) hHeld ?_
      simp only [Act.put, List.getElem_toArray, List.getElem_cons_succ, List.getElem_cons_zero, List.setIfInBounds_toArray, List.set_cons_zero, List.set_cons_succ]
      refine wpAnyH_ready (rs := [2]) (by kernel_rfl) (by simp) ?_
      refine AllReadyH.cons rfl (fun K hK => ?_) AllReadyH.nil
      rw [if_pos (by rfl)]
      simp only [List.getElem_toArray, List.getElem_cons_succ, List.getElem_cons_zero]
      go_wp2_with fail
      refine (HX.out _).mono ?_
      rintro e w5 ⟨g, rfl, hg5, hgz, hb5⟩
      have B5 := Lib.hid (HW.out.2.trans ((bd.trans (hb5.mono bd.size)).mono HW.out.2.size))
      go_wp2_with fail
      refine hK.out _ _ (⟨⟨rangeAt_later hHeld.1.1 hb5, rangeAt_later hHeld.1.2 hb5⟩, hHeld.2.trans (Gap.of _ _ hb5)⟩) (fun hHeld => ?_)
      refine wpAnyH_ready (rs := [3]) (by kernel_rfl) (by simp) ?_
      refine AllReadyH.cons rfl (fun K hK => ?_) AllReadyH.nil
      rw [if_pos (by rfl)]
      simp only [List.getElem_toArray, List.getElem_cons_succ, List.getElem_cons_zero]
      go_wp2_with fail
      refine (HE.out _ g B5.out hg5).mono ?_
      rintro e w6 ⟨rfl, hb6⟩
      have B6 := Lib.hid (B5.out.trans (hb6.mono B5.out.size))
      go_wp2_with fail
      refine hK.out _ _ (⟨⟨rangeAt_later hHeld.1.1 hb6, rangeAt_later hHeld.1.2 hb6⟩, hHeld.2.trans (Gap.of _ _ hb6)⟩) (fun hHeld => ?_)
      cases bx with
      | false =>
        refine wpAnyH_take (i := 4) (v := .bool true) rfl (by kernel_rfl) (by kernel_rfl) (by kernel_rfl) (fun _ _ _ h => h) (Or.inl ⟨by rfl, ?ybf4⟩) hHeld ?_
        case ybf4 => intro w hSw; go_simp
        simp only [Act.put, List.getElem_toArray, List.getElem_cons_succ, List.getElem_cons_zero, List.setIfInBounds_toArray, List.set_cons_zero, List.set_cons_succ]
        refine wpAnyH_take (i := 5) (v := .bool true) rfl (by kernel_rfl) (by kernel_rfl) (by kernel_rfl) (fun _ _ _ h => h) (Or.inl ⟨by rfl, ?ybf5⟩) hHeld ?_
        case ybf5 => intro w hSw; go_simp
        simp only [Act.put, List.getElem_toArray, List.getElem_cons_succ, List.getElem_cons_zero, List.setIfInBounds_toArray, List.set_cons_zero, List.set_cons_succ]
        refine wpAnyH_take (i := 6) (v := undef) rfl (by kernel_rfl) (by kernel_rfl) (by kernel_rfl) (fun _ _ _ h => h) (Or.inr ⟨by rfl, rfl⟩) hHeld ?_
        simp only [Act.put, List.getElem_toArray, List.getElem_cons_succ, List.getElem_cons_zero, List.setIfInBounds_toArray, List.set_cons_zero, List.set_cons_succ]
        refine wpAnyH_take (i := 7) (v := undef) rfl (by kernel_rfl) (by kernel_rfl) (by kernel_rfl) (fun _ _ _ h => h) (Or.inr ⟨by rfl, rfl⟩) hHeld ?_
        simp only [Act.put, List.getElem_toArray, List.getElem_cons_succ, List.getElem_cons_zero, List.setIfInBounds_toArray, List.set_cons_zero, List.set_cons_succ]
        refine wpAnyH_take (i := 8) (v := undef) rfl (by kernel_rfl) (by kernel_rfl) (by kernel_rfl) (fun _ _ _ h => h) (Or.inr ⟨by rfl, rfl⟩) hHeld ?_
        simp only [Act.put, List.getElem_toArray, List.getElem_cons_succ, List.getElem_cons_zero, List.setIfInBounds_toArray, List.set_cons_zero, List.set_cons_succ]
        refine wpAnyH_take (i := 9) (v := undef) rfl (by kernel_rfl) (by kernel_rfl) (by kernel_rfl) (fun _ _ _ h => h) (Or.inr ⟨by rfl, rfl⟩) hHeld ?_
        simp only [Act.put, List.getElem_toArray, List.getElem_cons_succ, List.getElem_cons_zero, List.setIfInBounds_toArray, List.set_cons_zero, List.set_cons_succ]
        refine wpAnyH_take (i := 10) (v := .bool true) rfl (by kernel_rfl) (by kernel_rfl) (by kernel_rfl) (fun _ _ _ h => h) (Or.inl ⟨by rfl, ?ybf10⟩) hHeld ?_
        case ybf10 => intro w hSw; go_simp
        simp only [Act.put, List.getElem_toArray, List.getElem_cons_succ, List.getElem_cons_zero, List.setIfInBounds_toArray, List.set_cons_zero, List.set_cons_succ]
        refine wpAnyH_done (by kernel_rfl) ?_ _
        have hno := Lib.hid (fun (hp : stmtP arrs qs R h l) => (Bool.noConfusion (Hbxx.out hp) : False))
        have G6 := Lib.hid hHeld.2
        have A6 := Lib.hid (hr.out.around.below B6.out)
        clear hHeld bd hb5 hb6 hg5 HX HE HS
        go_wp2
        go_ret
        refine ⟨false, rfl, ⟨fun e => (by cases e), fun e => absurd (HIF.out.1 e).1 hno.out⟩, G6.out, A6.out.more (by omega), fun e => (by cases e)⟩
      | true =>
        refine wpAnyH_take (i := 4) (v := .bool false) rfl (by kernel_rfl) (by kernel_rfl) (by kernel_rfl) (fun _ _ _ h => h) (Or.inl ⟨by rfl, ?ybt4⟩) hHeld ?_
        case ybt4 => intro w hSw; go_simp
        simp only [Act.put, List.getElem_toArray, List.getElem_cons_succ, List.getElem_cons_zero, List.setIfInBounds_toArray, List.set_cons_zero, List.set_cons_succ]
        refine wpAnyH_take (i := 5) (v := .bool false) rfl (by kernel_rfl) (by kernel_rfl) (by kernel_rfl) (fun _ _ _ h => h) (Or.inl ⟨by rfl, ?ybt5⟩) hHeld ?_
        case ybt5 => intro w hSw; go_simp
        simp only [Act.put, List.getElem_toArray, List.getElem_cons_succ, List.getElem_cons_zero, List.setIfInBounds_toArray, List.set_cons_zero, List.set_cons_succ]
        refine wpAnyH_take (i := 6) (v := .agg ([.map (some tb), .map (some (tb + 1))]).toArray) rfl (by kernel_rfl) (by kernel_rfl) (by kernel_rfl) (fun _ _ _ h => h) (yieldsIf_load_mid (by rfl) 68 _ rfl (w.heap.size) (0) rfl ([.map (some tb), .map (some (tb + 1))]) _ (fun w h => h.1.1) Tryz.underlying68 rfl sizeNM) hHeld ?_
        simp only [Act.put, List.getElem_toArray, List.getElem_cons_succ, List.getElem_cons_zero, List.setIfInBounds_toArray, List.set_cons_zero, List.set_cons_succ]
        refine wpAnyH_take (i := 7) (v := .agg (scells h v1 v2 v3 v4 u).toArray) rfl (by kernel_rfl) (by kernel_rfl) (by kernel_rfl) (fun _ _ _ h => h) (yieldsIf_load_mid (by rfl) 57 _ rfl (wr.heap.size) (0) rfl (scells h v1 v2 v3 v4 u) _ (fun w h => h.1.2) Tryz.underlying57 rfl sizeIS) hHeld ?_
        simp only [Act.put, List.getElem_toArray, List.getElem_cons_succ, List.getElem_cons_zero, List.setIfInBounds_toArray, List.set_cons_zero, List.set_cons_succ]
        refine wpAnyH_ready (rs := [8]) (by kernel_rfl) (by simp) ?_
        refine AllReadyH.cons rfl (fun K hK => ?_) AllReadyH.nil
        rw [if_pos (by rfl)]
        simp only [List.getElem_toArray, List.getElem_cons_succ, List.getElem_cons_zero]
        go_wp2_with fail
        refine (HS.out (by first | exact rfl | trivial) _ B6.out).mono ?_
        rintro e w7 ⟨bs, rfl, hbs, hg7, hA7, hT7⟩
        go_wp2_with fail
        refine hK.out _ _ (⟨⟨range_gap hHeld.1.1 hg7 (by omega), range_gap hHeld.1.2 hg7 (by omega)⟩, hHeld.2.trans hg7⟩) (fun hHeld => ?_)
        have RES := Lib.hid (And.intro hbs (And.intro hA7 hT7))
        clear hbs hg7 hA7 hT7 hb5 hb6 hg5 HX HE HS
        cases bs with
        | false =>
          refine wpAnyH_take (i := 9) (v := .bool true) rfl (by kernel_rfl) (by kernel_rfl) (by kernel_rfl) (fun _ _ _ h => h) (Or.inl ⟨by rfl, ?ysf9⟩) hHeld ?_
          case ysf9 => intro w hSw; go_simp
          simp only [Act.put, List.getElem_toArray, List.getElem_cons_succ, List.getElem_cons_zero, List.setIfInBounds_toArray, List.set_cons_zero, List.set_cons_succ]
          refine wpAnyH_take (i := 10) (v := .bool true) rfl (by kernel_rfl) (by kernel_rfl) (by kernel_rfl) (fun _ _ _ h => h) (Or.inl ⟨by rfl, ?ysf10⟩) hHeld ?_
          case ysf10 => intro w hSw; go_simp
          simp only [Act.put, List.getElem_toArray, List.getElem_cons_succ, List.getElem_cons_zero, List.setIfInBounds_toArray, List.set_cons_zero, List.set_cons_succ]
          refine wpAnyH_done (by kernel_rfl) ?_ _
          have G7 := Lib.hid hHeld.2
          have X7 := Lib.hid hHeld.1.1
          clear hHeld bd
          go_wp2
          go_ret
          refine ⟨false, rfl, ⟨fun e => (by cases e), fun e => absurd (RES.out.1.2 (HIF.out.1 e).1) (by simp)⟩, G7.out, RES.out.2.1.more (by omega), fun e => (by cases e)⟩
        | true =>
          refine wpAnyH_take (i := 9) (v := .bool false) rfl (by kernel_rfl) (by kernel_rfl) (by kernel_rfl) (fun _ _ _ h => h) (Or.inl ⟨by rfl, ?yst9⟩) hHeld ?_
          case yst9 => intro w hSw; go_simp
          simp only [Act.put, List.getElem_toArray, List.getElem_cons_succ, List.getElem_cons_zero, List.setIfInBounds_toArray, List.set_cons_zero, List.set_cons_succ]
          refine wpAnyH_take (i := 10) (v := .bool false) rfl (by kernel_rfl) (by kernel_rfl) (by kernel_rfl) (fun _ _ _ h => h) (Or.inl ⟨by rfl, ?yst10⟩) hHeld ?_
          case yst10 => intro w hSw; go_simp
          simp only [Act.put, List.getElem_toArray, List.getElem_cons_succ, List.getElem_cons_zero, List.setIfInBounds_toArray, List.set_cons_zero, List.set_cons_succ]
          refine wpAnyH_done (by kernel_rfl) ?_ _
          have G7 := Lib.hid hHeld.2
          have X7 := Lib.hid hHeld.1.1
          clear hHeld bd
          go_wp2
          go_roundw
          case rel =>
            obtain ⟨T2, t1, t2⟩ := RES.out.2.2 rfl
            have hst := RES.out.1.1 rfl
            refine ⟨r, j + 1, qs ++ (h, l) :: sall l, T2, m + 2 + 2 * snodes l, by go_num, Lib.hid ⟨by simp only [slen] at e1; omega, by rw [show o + (j + 1) * 19 = o + j * 19 + 19 by omega]; exact (SIn_node.1 hr.out.at_).2, t1, RES.out.2.1, by omega, by omega, t2, hst.1, G7.out, fun a ha => hr.out.nic a (by simp [sall, ha]), hr.out.bod.2.2, ⟨fun e => HIF.out.2 ⟨hst, e⟩, fun e => (HIF.out.1 e).2⟩, by have := hr.out.same; simp only [sall] at this; rw [← this]; simp, X7.out⟩⟩
          case measure => simp [RowKit.intOf]; omega
theorem bodyFits_all : ∀ (n : Nat) (F : SF), snodes F < n → BodyC F
  | 0, _, h => absurd h (by omega)
  | n + 1, F, h => bodyFits_step F (fun l hl => bodyFits_all n l (by omega))
theorem bodyFits_is (F : SF) : BodyC F := bodyFits_all _ F (Nat.lt_succ_self _)
end Go.Proofs.YtkilmefpaojkfaaGreat
