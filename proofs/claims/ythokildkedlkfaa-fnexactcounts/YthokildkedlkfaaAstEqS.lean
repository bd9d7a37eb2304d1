/-
  The contracts of eqStmt, eqStmtS where both are the same.
-/
import Derived.Test.YthokildkedlkfaaAstEq
import Derived.Deep.RegionHeld
namespace Go.Proofs.Ythokildkedlkfaa
open Go.RowKit Go.Lib
set_option linter.unusedSimpArgs false
set_option linter.unusedVariables false

theorem sizeIE2 : (Try.prog.info? 26).map (·.size) = some 4 := by kernel_rfl
section
variable {w : World} {b : Nat} {h : SH} {v1 v2 v3 v4 v : Value}
theorem part1 (r : w.rangeAt b 0 (scells h v1 v2 v3 v4 v)) : w.rangeAt b 2 (xcells h.x1 v1) := by
  have := rangeAt_part (ds := [.int .i64 h.k, .string h.s]) (es := xcells h.x1 v1) r rfl; rwa [Nat.zero_add] at this
theorem part2 (r : w.rangeAt b 0 (scells h v1 v2 v3 v4 v)) : w.rangeAt b 6 (xcells h.x2 v2) := by
  have := rangeAt_part (ds := [.int .i64 h.k, .string h.s] ++ xcells h.x1 v1) (es := xcells h.x2 v2) r rfl; rwa [Nat.zero_add] at this
theorem part3 (r : w.rangeAt b 0 (scells h v1 v2 v3 v4 v)) : w.rangeAt b 10 (xcells h.x3 v3) := by
  have := rangeAt_part (ds := [.int .i64 h.k, .string h.s] ++ xcells h.x1 v1 ++ xcells h.x2 v2) (es := xcells h.x3 v3) r rfl; rwa [Nat.zero_add] at this
theorem part4 (r : w.rangeAt b 0 (scells h v1 v2 v3 v4 v)) : w.rangeAt b 14 (xcells h.x4 v4) := by
  have := rangeAt_part (ds := [.int .i64 h.k, .string h.s] ++ xcells h.x1 v1 ++ xcells h.x2 v2 ++ xcells h.x3 v3) (es := xcells h.x4 v4) r rfl; rwa [Nat.zero_add] at this
theorem part5 (r : w.rangeAt b 0 (scells h v1 v2 v3 v4 v)) : w.cell? ⟨b, 18, Option.none⟩ = some v := by
  have := r 18 v rfl; rwa [Nat.zero_add] at this
end
/-- Two statements that came in, each in a block of its own. -/
structure Two (w0 w : World) (N : Nat) (g h : SH) (a1 a2 a3 a4 a b1 b2 b3 b4 b : Value) : Prop where
  r1 : w.rangeAt N 0 (scells g a1 a2 a3 a4 a)
  r2 : w.rangeAt (N + 1) 0 (scells h b1 b2 b3 b4 b)
  low : Below w0.heap.size w0 w
theorem Two.later {w0 w w' : World} {N : Nat} {g h : SH} {a1 a2 a3 a4 a b1 b2 b3 b4 b : Value} (t : Two w0 w N g h a1 a2 a3 a4 a b1 b2 b3 b4 b) (hb : Below w.heap.size w w') : Two w0 w' N g h a1 a2 a3 a4 a b1 b2 b3 b4 b :=
  ⟨rangeAt_later t.r1 hb, rangeAt_later t.r2 hb, t.low.trans (hb.mono t.low.size)⟩
theorem Two.start (w : World) (g h : SH) (a1 a2 a3 a4 a b1 b2 b3 b4 b : Value) (s t : TypeId) : Two w ((w.alloc (.cells (sarr g a1 a2 a3 a4 a) s)).alloc (.cells (sarr h b1 b2 b3 b4 b) t)) w.heap.size g h a1 a2 a3 a4 a b1 b2 b3 b4 b := by
  have e : ∀ (v : World) (o : Obj), (v.alloc o).heap = v.heap.push o := fun _ _ => rfl
  have q0 : ((w.alloc (.cells (sarr g a1 a2 a3 a4 a) s)).alloc (.cells (sarr h b1 b2 b3 b4 b) t)).heap[w.heap.size]? = some (.cells (sarr g a1 a2 a3 a4 a) s) := by rw [Below.heap_alloc _ _ _ (by simp), e]; simp
  have q1 : ((w.alloc (.cells (sarr g a1 a2 a3 a4 a) s)).alloc (.cells (sarr h b1 b2 b3 b4 b) t)).heap[(w.alloc (.cells (sarr g a1 a2 a3 a4 a) s)).heap.size]? = some (.cells (sarr h b1 b2 b3 b4 b) t) := (fun (v : World) (o : Obj) => (by rw [e]; simp : (v.alloc o).heap[v.heap.size]? = some o)) _ _
  have q2 : (w.alloc (.cells (sarr g a1 a2 a3 a4 a) s)).heap.size = w.heap.size + 1 := by simp
  rw [q2] at q1
  exact ⟨blk_range q0, blk_range q1, (alloc_below w _).alloc (by simp) _⟩
set_option maxHeartbeats 2000000 in
set_option maxRecDepth 100000 in
theorem eqStmt_of (h : SH) (l : SF) (k1 : xsize h.x1 ≤ 1048576) (k2 : xsize h.x2 ≤ 1048576) (k3 : xsize h.x3 ≤ 1048576) (k4 : xsize h.x4 ≤ 1048576)
    (ih : ∀ (w : World) (va vb : Value), SV w 0 l va → SV w 0 l vb → Calls Try.prog 24 #[va, vb] w fun e w' => e = .returned (.bool true) ∧ Below w.heap.size w w')
    (w : World) (a1 a2 a3 a4 a b1 b2 b3 b4 b : Value) (ha : HV w 0 h a1 a2 a3 a4) (hal : SV w 0 l a) (hb : HV w 0 h b1 b2 b3 b4) (hbl : SV w 0 l b) :
    Calls Try.prog 28 #[sagg h a1 a2 a3 a4 a, sagg h b1 b2 b3 b4 b] w fun e w' => e = .returned (.bool true) ∧ Below w.heap.size w w' := by
  have Hih := Lib.hid ih
  have HA := Lib.hid (And.intro ha hal)
  have HB := Lib.hid (And.intro hb hbl)
  have T0 := Lib.hid (Two.start w h h a1 a2 a3 a4 a b1 b2 b3 b4 b 29 29)
  clear ih ha hal hb hbl
  go_enter Try.func28, Try.ntmps28
  go_wp2_with fail
  refine (eqExp_is h.x1 k1 _ a1 b1 (HA.out.1.e1.later T0.out.low) (HB.out.1.e1.later T0.out.low)).mono ?_
  rintro e w1 ⟨rfl, hb1⟩
  have T1 := Lib.hid (T0.out.later hb1)
  clear hb1 T0
  go_wp2_with (first | (refine wpList_load_mid rfl 26 _ rfl w.heap.size 6 rfl _ _ (part2 T1.out.r1) Try.underlying26 rfl sizeIE2 ?_) | (refine wpList_load_mid rfl 26 _ rfl (w.heap.size + 1) 6 rfl _ _ (part2 T1.out.r2) Try.underlying26 rfl sizeIE2 ?_))
  refine (eqExp_is h.x2 k2 _ a2 b2 (HA.out.1.e2.later T1.out.low) (HB.out.1.e2.later T1.out.low)).mono ?_
  rintro e w2 ⟨rfl, hb2⟩
  have T2 := Lib.hid (T1.out.later hb2)
  clear hb2 T1
  go_wp2_with (first | (refine wpList_load_mid rfl 26 _ rfl w.heap.size 10 rfl _ _ (part3 T2.out.r1) Try.underlying26 rfl sizeIE2 ?_) | (refine wpList_load_mid rfl 26 _ rfl (w.heap.size + 1) 10 rfl _ _ (part3 T2.out.r2) Try.underlying26 rfl sizeIE2 ?_))
  refine (eqExp_is h.x3 k3 _ a3 b3 (HA.out.1.e3.later T2.out.low) (HB.out.1.e3.later T2.out.low)).mono ?_
  rintro e w3 ⟨rfl, hb3⟩
  have T3 := Lib.hid (T2.out.later hb3)
  clear hb3 T2
  go_wp2_with (first | (refine wpList_load_mid rfl 26 _ rfl w.heap.size 14 rfl _ _ (part4 T3.out.r1) Try.underlying26 rfl sizeIE2 ?_) | (refine wpList_load_mid rfl 26 _ rfl (w.heap.size + 1) 14 rfl _ _ (part4 T3.out.r2) Try.underlying26 rfl sizeIE2 ?_))
  refine (eqExp_is h.x4 k4 _ a4 b4 (HA.out.1.e4.later T3.out.low) (HB.out.1.e4.later T3.out.low)).mono ?_
  rintro e w4 ⟨rfl, hb4⟩
  have T4 := Lib.hid (T3.out.later hb4)
  clear hb4 T3
  have c1 := part5 T4.out.r1
  have c2 := part5 T4.out.r2
  go_wp2_with fail
  refine (Hih.out _ a b (HA.out.2.later T4.out.low) (HB.out.2.later T4.out.low)).mono ?_
  rintro e w5 ⟨rfl, hb5⟩
  have hB := (T4.out.later hb5).low
  clear hb5 T4 c1 c2
  go_wp2
  go_ret
  exact ⟨rfl, hB⟩
theorem HV.drew {w : World} {lo : Nat} {h : SH} {v1 v2 v3 v4 : Value} (hv : HV w lo h v1 v2 v3 v4) : HV w.drew lo h v1 v2 v3 v4 := ⟨hv.e1.drew, hv.e2.drew, hv.e3.drew, hv.e4.drew⟩
theorem eqStmt_any (h : SH) (l : SF) (A C : List Value) (a1 a2 a3 a4 a b1 b2 b3 b4 b : Value) (hA : A = scells h a1 a2 a3 a4 a) (hC : C = scells h b1 b2 b3 b4 b) (hk : xsize h.x1 ≤ 1048576 ∧ xsize h.x2 ≤ 1048576 ∧ xsize h.x3 ≤ 1048576 ∧ xsize h.x4 ≤ 1048576)
    (ih : ∀ (w : World) (va vb : Value), SV w 0 l va → SV w 0 l vb → Calls Try.prog 24 #[va, vb] w fun e w' => e = .returned (.bool true) ∧ Below w.heap.size w w')
    (w : World) (ha : HV w 0 h a1 a2 a3 a4) (hal : SV w 0 l a) (hb : HV w 0 h b1 b2 b3 b4) (hbl : SV w 0 l b) :
    Calls Try.prog 28 #[.agg A.toArray, .agg C.toArray] w fun e w' => e = .returned (.bool true) ∧ Below w.heap.size w w' := by
  subst hA hC
  exact eqStmt_of h l hk.1 hk.2.1 hk.2.2.1 hk.2.2.2 ih w a1 a2 a3 a4 a b1 b2 b3 b4 b ha hal hb hbl
set_option maxHeartbeats 2000000 in
set_option maxRecDepth 100000 in
theorem eqStmtS_step (F : SF) (hF : ssize F ≤ 1048576)
    (ih : ∀ l : SF, snodes l < snodes F → ssize l ≤ 1048576 → ∀ (w : World) (va vb : Value), SV w 0 l va → SV w 0 l vb → Calls Try.prog 24 #[va, vb] w fun e w' => e = .returned (.bool true) ∧ Below w.heap.size w w')
    (w : World) (va vb : Value) (ha : SV w 0 F va) (hb : SV w 0 F vb) :
    Calls Try.prog 24 #[va, vb] w fun e w' => e = .returned (.bool true) ∧ Below w.heap.size w w' := by
  have hn : slen F ≤ 1048576 := Nat.le_trans (Nat.le_trans (slen_le F) (snodes_le F)) hF
  obtain ⟨b1, o1, ao1, cap1, rfl, hao1, _, hin1⟩ := ha
  obtain ⟨b2, o2, ao2, cap2, rfl, hao2, _, hin2⟩ := hb
  have Hih := Lib.hid ih
  clear ih
  go_enter Try.func24, Try.ntmps24
  go_wp2
  go_loopw [5] (fun i wr => ∃ (R : SF) (k : Nat), i = .int .i64 (k : Int) ∧ Hid (k + slen R = slen F ∧ snodes R ≤ snodes F ∧ ssize R ≤ 1048576 ∧ SIn w 0 R b1 (o1 + k * 19) ∧ SIn w 0 R b2 (o2 + k * 19)) ∧ Below w.heap.size w wr) (fun i _ => slen F - (RowKit.intOf i).toNat)
  case atStart => exact ⟨F, 0, rfl, ⟨by omega, Nat.le_refl _, hF, by simpa using hin1, by simpa using hin2⟩, Below.refl _ _⟩
  case round =>
    obtain ⟨R, k, rfl, hr, hbw⟩ := hrel
    obtain ⟨e1, e2, e5, e3, e4⟩ := hr.out
    cases R with
    | nil =>
      have hk : ¬ (k : Int) < (slen F : Int) := by simp only [slen] at e1; omega
      go_wp2
      go_ret
      exact ⟨rfl, hbw⟩
    | node p q h l r =>
      have hlt : (k : Int) < (slen F : Int) := by simp only [slen] at e1; omega
      have hk0 : (0 : Int) ≤ (k : Int) := by omega
      have hne : ¬ F = .nil := by intro e; subst e; simp only [slen] at e1; omega
      obtain rfl : ao1 = some ⟨b1, o1, Option.none⟩ := hao1.resolve_right hne
      obtain rfl : ao2 = some ⟨b2, o2, Option.none⟩ := hao2.resolve_right hne
      obtain ⟨a1, a2, a3, a4, a, hva, hal, ra⟩ := (SIn_node.1 (SIn_later hbw _ _ _ e3)).1.range
      obtain ⟨c1, c2, c3, c4, c, hvc, hcl, rc⟩ := (SIn_node.1 (SIn_later hbw _ _ _ e4)).1.range
      simp only [snodes] at e2
      simp only [ssize, hsize] at e5
      have Hl := Lib.hid (fun w va vb => Hih.out l (by omega) (by omega) w va vb)
      have He : Hid (k + 1 + slen r = slen F ∧ snodes r ≤ snodes F ∧ ssize r ≤ 1048576 ∧ SIn w 0 r b1 (o1 + (k + 1) * 19) ∧ SIn w 0 r b2 (o2 + (k + 1) * 19)) := ⟨by simp only [slen] at e1; omega, by omega, by omega, by rw [show o1 + (k + 1) * 19 = o1 + k * 19 + 19 by omega]; exact (SIn_node.1 e3).2, by rw [show o2 + (k + 1) * 19 = o2 + k * 19 + 19 by omega]; exact (SIn_node.1 e4).2⟩
      have HU : Hid ((HV wr 0 h a1 a2 a3 a4 ∧ SV wr 0 l a) ∧ (HV wr 0 h c1 c2 c3 c4 ∧ SV wr 0 l c)) := ⟨⟨hva, hal⟩, ⟨hvc, hcl⟩⟩
      have HK : Hid (xsize h.x1 ≤ 1048576 ∧ xsize h.x2 ≤ 1048576 ∧ xsize h.x3 ≤ 1048576 ∧ xsize h.x4 ≤ 1048576) := ⟨by omega, by omega, by omega, by omega⟩
      obtain ⟨A, hA⟩ : ∃ A, A = scells h a1 a2 a3 a4 a := ⟨_, rfl⟩
      obtain ⟨C, hC⟩ : ∃ C, C = scells h c1 c2 c3 c4 c := ⟨_, rfl⟩
      rw [← hA] at ra
      rw [← hC] at rc
      have lA : A.length = 19 := by rw [hA]; rfl
      have lC : C.length = 19 := by rw [hC]; rfl
      have hu := Try.underlying29
      have hiA : (Try.prog.info? 29).map (·.size) = some A.length := by rw [lA]; exact sizeIS
      have hiC : (Try.prog.info? 29).map (·.size) = some C.length := by rw [lC]; exact sizeIS
      have HAC : Hid (A = scells h a1 a2 a3 a4 a ∧ C = scells h c1 c2 c3 c4 c) := ⟨hA, hC⟩
      clear hr e1 e2 e3 e4 e5 hin1 hin2 hne hao1 hao2 hva hal hvc hcl hA hC
      go_wp2_with fail
      go_cut [26] from 11 to 26 (fun v wx => v = .bool false ∧ Below wr.heap.size wr wx)
      case first =>
        refine wp_region_held_drew (S := fun w' => w'.rangeAt b1 (o1 + k * 19) A ∧ w'.rangeAt b2 (o2 + k * 19) C) (by kernel_rfl) ⟨(World.rangeAt_drew _ _ _ _).2 ra, (World.rangeAt_drew _ _ _ _).2 rc⟩ (fun hHeld => ?_)
        refine wpAnyH_take (i := 0) (v := .slice (some ⟨b1, o1, Option.none⟩) (slen F) cap1) rfl (by kernel_rfl) (by kernel_rfl) (by kernel_rfl) (fun _ _ _ h => h) (Or.inl ⟨by rfl, ?y0⟩) hHeld ?_
        case y0 => intro w hSw; go_simp
        simp only [Act.put, List.getElem_toArray, List.getElem_cons_succ, List.getElem_cons_zero, List.setIfInBounds_toArray, List.set_cons_zero, List.set_cons_succ]
        refine wpAnyH_take (i := 1) (v := .int .i64 (k : Int)) rfl (by kernel_rfl) (by kernel_rfl) (by kernel_rfl) (fun _ _ _ h => h) (Or.inl ⟨by rfl, ?y1⟩) hHeld ?_
        case y1 => intro w hSw; go_simp
        simp only [Act.put, List.getElem_toArray, List.getElem_cons_succ, List.getElem_cons_zero, List.setIfInBounds_toArray, List.set_cons_zero, List.set_cons_succ]
        refine wpAnyH_take (i := 2) (v := .pointer (some ⟨b1, o1 + k * 19, Option.none⟩)) rfl (by kernel_rfl) (by kernel_rfl) (by kernel_rfl) (fun _ _ _ h => h) (Or.inl ⟨by rfl, ?y2⟩) hHeld ?_
        case y2 => intro w hSw; go_simp
        simp only [Act.put, List.getElem_toArray, List.getElem_cons_succ, List.getElem_cons_zero, List.setIfInBounds_toArray, List.set_cons_zero, List.set_cons_succ]
        refine wpAnyH_take (i := 3) (v := .agg A.toArray) rfl (by kernel_rfl) (by kernel_rfl) (by kernel_rfl) (fun _ _ _ h => h) (yieldsIf_load_mid (by rfl) 29 _ rfl b1 (o1 + k * 19) rfl A _ (fun w h => h.1) Try.underlying29 rfl hiA) hHeld ?_
        simp only [Act.put, List.getElem_toArray, List.getElem_cons_succ, List.getElem_cons_zero, List.setIfInBounds_toArray, List.set_cons_zero, List.set_cons_succ]
        refine wpAnyH_take (i := 4) (v := .slice (some ⟨b2, o2, Option.none⟩) (slen F) cap2) rfl (by kernel_rfl) (by kernel_rfl) (by kernel_rfl) (fun _ _ _ h => h) (Or.inl ⟨by rfl, ?y4⟩) hHeld ?_
        case y4 => intro w hSw; go_simp
        simp only [Act.put, List.getElem_toArray, List.getElem_cons_succ, List.getElem_cons_zero, List.setIfInBounds_toArray, List.set_cons_zero, List.set_cons_succ]
        refine wpAnyH_take (i := 5) (v := .int .i64 (k : Int)) rfl (by kernel_rfl) (by kernel_rfl) (by kernel_rfl) (fun _ _ _ h => h) (Or.inl ⟨by rfl, ?y5⟩) hHeld ?_
        case y5 => intro w hSw; go_simp
        simp only [Act.put, List.getElem_toArray, List.getElem_cons_succ, List.getElem_cons_zero, List.setIfInBounds_toArray, List.set_cons_zero, List.set_cons_succ]
        refine wpAnyH_take (i := 6) (v := .pointer (some ⟨b2, o2 + k * 19, Option.none⟩)) rfl (by kernel_rfl) (by kernel_rfl) (by kernel_rfl) (fun _ _ _ h => h) (Or.inl ⟨by rfl, ?y6⟩) hHeld ?_
        case y6 => intro w hSw; go_simp
        simp only [Act.put, List.getElem_toArray, List.getElem_cons_succ, List.getElem_cons_zero, List.setIfInBounds_toArray, List.set_cons_zero, List.set_cons_succ]
        refine wpAnyH_take (i := 7) (v := .agg C.toArray) rfl (by kernel_rfl) (by kernel_rfl) (by kernel_rfl) (fun _ _ _ h => h) (yieldsIf_load_mid (by rfl) 29 _ rfl b2 (o2 + k * 19) rfl C _ (fun w h => h.2) Try.underlying29 rfl hiC) hHeld ?_
        simp only [Act.put, List.getElem_toArray, List.getElem_cons_succ, List.getElem_cons_zero, List.setIfInBounds_toArray, List.set_cons_zero, List.set_cons_succ]
        refine wpAnyH_ready (rs := [8]) (by kernel_rfl) (by simp) ?_
        refine AllReadyH.cons rfl (fun K hK => ?_) AllReadyH.nil
        rw [if_pos (by rfl)]
        simp only [List.getElem_toArray, List.getElem_cons_succ, List.getElem_cons_zero]
        go_wp2_with fail
        have hq := eqStmt_any h l A C a1 a2 a3 a4 a c1 c2 c3 c4 c HAC.out.1 HAC.out.2 HK.out Hl.out _ HU.out.1.1.drew HU.out.1.2.drew HU.out.2.1.drew HU.out.2.2.drew
        refine hq.mono ?_
        rintro e w1 ⟨rfl, hb1⟩
        go_wp2_with fail
        refine hK.out _ _ ⟨rangeAt_later hHeld.1 hb1, rangeAt_later hHeld.2 hb1⟩ (fun hHeld => ?_)
        clear hq
        refine wpAnyH_take (i := 9) (v := .bool false) rfl (by kernel_rfl) (by kernel_rfl) (by kernel_rfl) (fun _ _ _ h => h) (Or.inl ⟨by rfl, ?y9⟩) hHeld ?_
        case y9 => intro w hSw; go_simp
        simp only [Act.put, List.getElem_toArray, List.getElem_cons_succ, List.getElem_cons_zero, List.setIfInBounds_toArray, List.set_cons_zero, List.set_cons_succ]
        refine wpAnyH_done (by kernel_rfl) ?_ _
        all_goals (try go_wp2_with fail)
        all_goals go_meet
        all_goals exact ⟨rfl, ⟨hb1.os, hb1.tape, hb1.output, hb1.size, hb1.block⟩⟩
      case rest =>
        obtain ⟨rfl, hb1⟩ := hcut
        have hbw2 := hbw.trans (hb1.mono hbw.size)
        clear ra rc hb1 hu hiA hiC lA lC
        go_wp2
        go_roundw
        case rel => exact ⟨r, k + 1, by go_num, He.out, hbw2⟩
        case measure => simp [RowKit.intOf]; omega
theorem eqStmtS_all : ∀ (n : Nat) (F : SF), snodes F < n → ssize F ≤ 1048576 → ∀ (w : World) (va vb : Value), SV w 0 F va → SV w 0 F vb → Calls Try.prog 24 #[va, vb] w fun e w' => e = .returned (.bool true) ∧ Below w.heap.size w w'
  | 0, _, h, _, _, _, _, _, _ => absurd h (by omega)
  | n + 1, F, h, hF, w, va, vb, ha, hb => eqStmtS_step F hF (fun l hl hk w va vb a b => eqStmtS_all n l (by omega) hk w va vb a b) w va vb ha hb
theorem eqStmtS_is (F : SF) (hF : ssize F ≤ 1048576) (w : World) (va vb : Value) (ha : SV w 0 F va) (hb : SV w 0 F vb) :
    Calls Try.prog 24 #[va, vb] w fun e w' => e = .returned (.bool true) ∧ Below w.heap.size w w' := eqStmtS_all _ F (Nat.lt_succ_self _) hF w va vb ha hb
end Go.Proofs.Ythokildkedlkfaa
