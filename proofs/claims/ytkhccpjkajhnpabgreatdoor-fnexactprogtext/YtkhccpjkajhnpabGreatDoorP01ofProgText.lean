/-
  Texts in one: AstEqS, AstTo, AstToS, AstUnder, AstSameP.
-/
import Derived.Test.YtkhccpjkajhnpabGreatDoorP00ofProgText
import Derived.Deep.RegionHeld
/-
  The contracts of eqStmt, eqStmtS where both are the same.
-/
namespace Go.Proofs.YtkhccpjkajhnpabGreatDoor
open Go.RowKit Go.Lib
set_option linter.unusedSimpArgs false
set_option linter.unusedVariables false

theorem sizeIE2 : (Tryz.prog.info? 65).map (·.size) = some 4 := by kernel_rfl
section
variable {w : World} {b : Nat} {h : SH} {v1 v2 v3 v4 v : Value}
theorem part1 (r : w.rangeAt b 0 (scells h v1 v2 v3 v4 v)) : w.rangeAt b 2 (xcells h.x1 v1) := by
  have := rangeAt_part (ds := [.int .i64 h.k, .string h.s]) (es := xcells h.x1 v1) r rfl; rwa [Nat.zero_add] at this
theorem part2 (r : w.rangeAt b 0 (scells h v1 v2 v3 v4 v)) : w.rangeAt b 6 (xcells h.x2 v2) := by
  have := rangeAt_part (ds := [.int .i64 h.k, .string h.s] ++ xcells h.x1 v1) (es := xcells h.x2 v2) r rfl; rwa [Nat.zero_add] at this
theorem part3 (r : w.rangeAt b 0 (scells h v1 v2 v3 v4 v)) : w.rangeAt b 10 (xcells h.x3 v3) := by
  have := rangeAt_part (ds := [.int .i64 h.k, .string h.s] ++ xcells h.x1 v1 ++ xcells h.x2 v2) (es := xcells h.x3 v3) r rfl; rwa [Nat.zero_add] at this
theorem part4 (r : w.rangeAt b 0 (scells h v1 v2 v3 v4 v)) : w.rangeAt b 14 (xcells h.x4 v4) := by
  have := rangeAt_part (ds := [.int .i64 h.k, .string h.s] ++ xcells h.x1 v1 ++ xcells h.x2 v2 ++ xcells h.x3 v3) (es := xcells h.x4 v4) r rfl; rwa [Nat.zero_add] at this
theorem part5 (r : w.rangeAt b 0 (scells h v1 v2 v3 v4 v)) : w.cell? ⟨b, 18, Option.none⟩ = some v := by
  have := r 18 v rfl; rwa [Nat.zero_add] at this
end
/-- Two statements that came in, each in a block of its own. -/
structure Two (w0 w : World) (N : Nat) (g h : SH) (a1 a2 a3 a4 a b1 b2 b3 b4 b : Value) : Prop where
  r1 : w.rangeAt N 0 (scells g a1 a2 a3 a4 a)
  r2 : w.rangeAt (N + 1) 0 (scells h b1 b2 b3 b4 b)
  low : Below w0.heap.size w0 w
theorem Two.later {w0 w w' : World} {N : Nat} {g h : SH} {a1 a2 a3 a4 a b1 b2 b3 b4 b : Value} (t : Two w0 w N g h a1 a2 a3 a4 a b1 b2 b3 b4 b) (hb : Below w.heap.size w w') : Two w0 w' N g h a1 a2 a3 a4 a b1 b2 b3 b4 b :=
  ⟨rangeAt_later t.r1 hb, rangeAt_later t.r2 hb, t.low.trans (hb.mono t.low.size)⟩
theorem Two.start (w : World) (g h : SH) (a1 a2 a3 a4 a b1 b2 b3 b4 b : Value) (s t : TypeId) : Two w ((w.alloc (.cells (sarr g a1 a2 a3 a4 a) s)).alloc (.cells (sarr h b1 b2 b3 b4 b) t)) w.heap.size g h a1 a2 a3 a4 a b1 b2 b3 b4 b := by
  have e : ∀ (v : World) (o : Obj), (v.alloc o).heap = v.heap.push o := fun _ _ => rfl
  have q0 : ((w.alloc (.cells (sarr g a1 a2 a3 a4 a) s)).alloc (.cells (sarr h b1 b2 b3 b4 b) t)).heap[w.heap.size]? = some (.cells (sarr g a1 a2 a3 a4 a) s) := by rw [Below.heap_alloc _ _ _ (by simp), e]; simp
  have q1 : ((w.alloc (.cells (sarr g a1 a2 a3 a4 a) s)).alloc (.cells (sarr h b1 b2 b3 b4 b) t)).heap[(w.alloc (.cells (sarr g a1 a2 a3 a4 a) s)).heap.size]? = some (.cells (sarr h b1 b2 b3 b4 b) t) := (fun (v : World) (o : Obj) => (by rw [e]; simp : (v.alloc o).heap[v.heap.size]? = some o)) _ _
  have q2 : (w.alloc (.cells (sarr g a1 a2 a3 a4 a) s)).heap.size = w.heap.size + 1 := by simp
  rw [q2] at q1
  exact ⟨blk_range q0, blk_range q1, (alloc_below w _).alloc (by simp) _⟩
set_option maxHeartbeats 2000000 in
set_option maxRecDepth 100000 in
theorem eqStmt_of (h : SH) (l : SF) (k1 : xsize h.x1 ≤ 1048576) (k2 : xsize h.x2 ≤ 1048576) (k3 : xsize h.x3 ≤ 1048576) (k4 : xsize h.x4 ≤ 1048576)
    (ih : ∀ (w : World) (va vb : Value), SV w 0 l va → SV w 0 l vb → Calls Tryz.prog 21 #[va, vb] w fun e w' => e = .returned (.bool true) ∧ Below w.heap.size w w')
    (w : World) (a1 a2 a3 a4 a b1 b2 b3 b4 b : Value) (ha : HV w 0 h a1 a2 a3 a4) (hal : SV w 0 l a) (hb : HV w 0 h b1 b2 b3 b4) (hbl : SV w 0 l b) :
    Calls Tryz.prog 47 #[sagg h a1 a2 a3 a4 a, sagg h b1 b2 b3 b4 b] w fun e w' => e = .returned (.bool true) ∧ Below w.heap.size w w' := by
  have Hih := Lib.hid ih
  have HA := Lib.hid (And.intro ha hal)
  have HB := Lib.hid (And.intro hb hbl)
  have T0 := Lib.hid (Two.start w h h a1 a2 a3 a4 a b1 b2 b3 b4 b 67 67)
  clear ih ha hal hb hbl
  go_enter Tryz.func47, Tryz.ntmps47
  go_wp2_with fail
  refine (eqExp_is h.x1 k1 _ a1 b1 (HA.out.1.e1.later T0.out.low) (HB.out.1.e1.later T0.out.low)).mono ?_
  rintro e w1 ⟨rfl, hb1⟩
  have T1 := Lib.hid (T0.out.later hb1)
  clear hb1 T0
  go_wp2_with (first | (refine wpList_load_mid rfl 65 _ rfl w.heap.size 6 rfl _ _ (part2 T1.out.r1) Tryz.underlying65 rfl sizeIE2 ?_) | (refine wpList_load_mid rfl 65 _ rfl (w.heap.size + 1) 6 rfl _ _ (part2 T1.out.r2) Tryz.underlying65 rfl sizeIE2 ?_))
  refine (eqExp_is h.x2 k2 _ a2 b2 (HA.out.1.e2.later T1.out.low) (HB.out.1.e2.later T1.out.low)).mono ?_
  rintro e w2 ⟨rfl, hb2⟩
  have T2 := Lib.hid (T1.out.later hb2)
  clear hb2 T1
  go_wp2_with (first | (refine wpList_load_mid rfl 65 _ rfl w.heap.size 10 rfl _ _ (part3 T2.out.r1) Tryz.underlying65 rfl sizeIE2 ?_) | (refine wpList_load_mid rfl 65 _ rfl (w.heap.size + 1) 10 rfl _ _ (part3 T2.out.r2) Tryz.underlying65 rfl sizeIE2 ?_))
  refine (eqExp_is h.x3 k3 _ a3 b3 (HA.out.1.e3.later T2.out.low) (HB.out.1.e3.later T2.out.low)).mono ?_
  rintro e w3 ⟨rfl, hb3⟩
  have T3 := Lib.hid (T2.out.later hb3)
  clear hb3 T2
  go_wp2_with (first | (refine wpList_load_mid rfl 65 _ rfl w.heap.size 14 rfl _ _ (part4 T3.out.r1) Tryz.underlying65 rfl sizeIE2 ?_) | (refine wpList_load_mid rfl 65 _ rfl (w.heap.size + 1) 14 rfl _ _ (part4 T3.out.r2) Tryz.underlying65 rfl sizeIE2 ?_))
  refine (eqExp_is h.x4 k4 _ a4 b4 (HA.out.1.e4.later T3.out.low) (HB.out.1.e4.later T3.out.low)).mono ?_
  rintro e w4 ⟨rfl, hb4⟩
  have T4 := Lib.hid (T3.out.later hb4)
  clear hb4 T3
  have c1 := part5 T4.out.r1
  have c2 := part5 T4.out.r2
  go_wp2_with fail
  refine (Hih.out _ a b (HA.out.2.later T4.out.low) (HB.out.2.later T4.out.low)).mono ?_
  rintro e w5 ⟨rfl, hb5⟩
  have hB := (T4.out.later hb5).low
  clear hb5 T4 c1 c2
  go_wp2
  go_ret
  exact ⟨rfl, hB⟩
theorem HV.drew {w : World} {lo : Nat} {h : SH} {v1 v2 v3 v4 : Value} (hv : HV w lo h v1 v2 v3 v4) : HV w.drew lo h v1 v2 v3 v4 := ⟨hv.e1.drew, hv.e2.drew, hv.e3.drew, hv.e4.drew⟩
theorem eqStmt_any (h : SH) (l : SF) (A C : List Value) (a1 a2 a3 a4 a b1 b2 b3 b4 b : Value) (hA : A = scells h a1 a2 a3 a4 a) (hC : C = scells h b1 b2 b3 b4 b) (hk : xsize h.x1 ≤ 1048576 ∧ xsize h.x2 ≤ 1048576 ∧ xsize h.x3 ≤ 1048576 ∧ xsize h.x4 ≤ 1048576)
    (ih : ∀ (w : World) (va vb : Value), SV w 0 l va → SV w 0 l vb → Calls Tryz.prog 21 #[va, vb] w fun e w' => e = .returned (.bool true) ∧ Below w.heap.size w w')
    (w : World) (ha : HV w 0 h a1 a2 a3 a4) (hal : SV w 0 l a) (hb : HV w 0 h b1 b2 b3 b4) (hbl : SV w 0 l b) :
    Calls Tryz.prog 47 #[.agg A.toArray, .agg C.toArray] w fun e w' => e = .returned (.bool true) ∧ Below w.heap.size w w' := by
  subst hA hC
  exact eqStmt_of h l hk.1 hk.2.1 hk.2.2.1 hk.2.2.2 ih w a1 a2 a3 a4 a b1 b2 b3 b4 b ha hal hb hbl
set_option maxHeartbeats 2000000 in
set_option maxRecDepth 100000 in
theorem eqStmtS_step (F : SF) (hF : ssize F ≤ 1048576)
    (ih : ∀ l : SF, snodes l < snodes F → ssize l ≤ 1048576 → ∀ (w : World) (va vb : Value), SV w 0 l va → SV w 0 l vb → Calls Tryz.prog 21 #[va, vb] w fun e w' => e = .returned (.bool true) ∧ Below w.heap.size w w')
    (w : World) (va vb : Value) (ha : SV w 0 F va) (hb : SV w 0 F vb) :
    Calls Tryz.prog 21 #[va, vb] w fun e w' => e = .returned (.bool true) ∧ Below w.heap.size w w' := by
  have hn : slen F ≤ 1048576 := Nat.le_trans (Nat.le_trans (slen_le F) (snodes_le F)) hF
  obtain ⟨b1, o1, ao1, cap1, rfl, hao1, _, hin1⟩ := ha
  obtain ⟨b2, o2, ao2, cap2, rfl, hao2, _, hin2⟩ := hb
  have Hih := Lib.hid ih
  clear ih
  go_enter Tryz.func21, Tryz.ntmps21
  go_wp2
  go_loopw [5] (fun i wr => ∃ (R : SF) (k : Nat), i = .int .i64 (k : Int) ∧ Hid (k + slen R = slen F ∧ snodes R ≤ snodes F ∧ ssize R ≤ 1048576 ∧ SIn w 0 R b1 (o1 + k * 19) ∧ SIn w 0 R b2 (o2 + k * 19)) ∧ Below w.heap.size w wr) (fun i _ => slen F - (RowKit.intOf i).toNat)
  case atStart => exact ⟨F, 0, rfl, ⟨by omega, Nat.le_refl _, hF, by simpa using hin1, by simpa using hin2⟩, Below.refl _ _⟩
  case round =>
    obtain ⟨R, k, rfl, hr, hbw⟩ := hrel
    obtain ⟨e1, e2, e5, e3, e4⟩ := hr.out
    cases R with
    | nil =>
      have hk : ¬ (k : Int) < (slen F : Int) := by simp only [slen] at e1; omega
      go_wp2
      go_ret
      exact ⟨rfl, hbw⟩
    | node p q h l r =>
      have hlt : (k : Int) < (slen F : Int) := by simp only [slen] at e1; omega
      have hk0 : (0 : Int) ≤ (k : Int) := by omega
      have hne : ¬ F = .nil := by intro e; subst e; simp only [slen] at e1; omega
      obtain rfl : ao1 = some ⟨b1, o1, Option.none⟩ := hao1.resolve_right hne
      obtain rfl : ao2 = some ⟨b2, o2, Option.none⟩ := hao2.resolve_right hne
      obtain ⟨a1, a2, a3, a4, a, hva, hal, ra⟩ := (SIn_node.1 (SIn_later hbw _ _ _ e3)).1.range
      obtain ⟨c1, c2, c3, c4, c, hvc, hcl, rc⟩ := (SIn_node.1 (SIn_later hbw _ _ _ e4)).1.range
      simp only [snodes] at e2
      simp only [ssize, hsize] at e5
      have Hl := Lib.hid (fun w va vb => Hih.out l (by omega) (by omega) w va vb)
      have He : Hid (k + 1 + slen r = slen F ∧ snodes r ≤ snodes F ∧ ssize r ≤ 1048576 ∧ SIn w 0 r b1 (o1 + (k + 1) * 19) ∧ SIn w 0 r b2 (o2 + (k + 1) * 19)) := ⟨by simp only [slen] at e1; omega, by omega, by omega, by rw [show o1 + (k + 1) * 19 = o1 + k * 19 + 19 by omega]; exact (SIn_node.1 e3).2, by rw [show o2 + (k + 1) * 19 = o2 + k * 19 + 19 by omega]; exact (SIn_node.1 e4).2⟩
      have HU : Hid ((HV wr 0 h a1 a2 a3 a4 ∧ SV wr 0 l a) ∧ (HV wr 0 h c1 c2 c3 c4 ∧ SV wr 0 l c)) := ⟨⟨hva, hal⟩, ⟨hvc, hcl⟩⟩
      have HK : Hid (xsize h.x1 ≤ 1048576 ∧ xsize h.x2 ≤ 1048576 ∧ xsize h.x3 ≤ 1048576 ∧ xsize h.x4 ≤ 1048576) := ⟨by omega, by omega, by omega, by omega⟩
      obtain ⟨A, hA⟩ : ∃ A, A = scells h a1 a2 a3 a4 a := ⟨_, rfl⟩
      obtain ⟨C, hC⟩ : ∃ C, C = scells h c1 c2 c3 c4 c := ⟨_, rfl⟩
      rw [← hA] at ra
      rw [← hC] at rc
      have lA : A.length = 19 := by rw [hA]; rfl
      have lC : C.length = 19 := by rw [hC]; rfl
      have hu := Tryz.underlying67
      have hiA : (Tryz.prog.info? 67).map (·.size) = some A.length := by rw [lA]; exact sizeIS
      have hiC : (Tryz.prog.info? 67).map (·.size) = some C.length := by rw [lC]; exact sizeIS
      have HAC : Hid (A = scells h a1 a2 a3 a4 a ∧ C = scells h c1 c2 c3 c4 c) := ⟨hA, hC⟩
      clear hr e1 e2 e3 e4 e5 hin1 hin2 hne hao1 hao2 hva hal hvc hcl hA hC
      go_wp2_with fail
      go_cut [26] from 11 to 26 (fun v wx => v = .bool false ∧ Below wr.heap.size wr wx)
      case first =>
        refine wp_region_held_drew (S := fun w' => w'.rangeAt b1 (o1 + k * 19) A ∧ w'.rangeAt b2 (o2 + k * 19) C) (by kernel_rfl) ⟨(World.rangeAt_drew _ _ _ _).2 ra, (World.rangeAt_drew _ _ _ _).2 rc⟩ (fun hHeld => ?_)
        refine wpAnyH_take (i := 0) (v := .slice (some ⟨b1, o1, Option.none⟩) (slen F) cap1) rfl (by kernel_rfl) (by kernel_rfl) (by kernel_rfl) (fun _ _ _ h => h) (Or.inl ⟨by rfl, ?y0⟩) hHeld ?_
        case y0 => intro w hSw; go_simp
        simp only [Act.put, List.getElem_toArray, List.getElem_cons_succ, List.getElem_cons_zero, List.setIfInBounds_toArray, List.set_cons_zero, List.set_cons_succ]
        refine wpAnyH_take (i := 1) (v := .int .i64 (k : Int)) rfl (by kernel_rfl) (by kernel_rfl) (by kernel_rfl) (fun _ _ _ h => h) (Or.inl ⟨by rfl, ?y1⟩) hHeld ?_
        case y1 => intro w hSw; go_simp
        simp only [Act.put, List.getElem_toArray, List.getElem_cons_succ, List.getElem_cons_zero, List.setIfInBounds_toArray, List.set_cons_zero, List.set_cons_succ]
        refine wpAnyH_take (i := 2) (v := .pointer (some ⟨b1, o1 + k * 19, Option.none⟩)) rfl (by kernel_rfl) (by kernel_rfl) (by kernel_rfl) (fun _ _ _ h => h) (Or.inl ⟨by rfl, ?y2⟩) hHeld ?_
        case y2 => intro w hSw; go_simp
        simp only [Act.put, List.getElem_toArray, List.getElem_cons_succ, List.getElem_cons_zero, List.setIfInBounds_toArray, List.set_cons_zero, List.set_cons_succ]
        refine wpAnyH_take (i := 3) (v := .agg A.toArray) rfl (by kernel_rfl) (by kernel_rfl) (by kernel_rfl) (fun _ _ _ h => h) (yieldsIf_load_mid (by rfl) 67 _ rfl b1 (o1 + k * 19) rfl A _ (fun w h => h.1) Tryz.underlying67 rfl hiA) hHeld ?_
        simp only [Act.put, List.getElem_toArray, List.getElem_cons_succ, List.getElem_cons_zero, List.setIfInBounds_toArray, List.set_cons_zero, List.set_cons_succ]
        refine wpAnyH_take (i := 4) (v := .slice (some ⟨b2, o2, Option.none⟩) (slen F) cap2) rfl (by kernel_rfl) (by kernel_rfl) (by kernel_rfl) (fun _ _ _ h => h) (Or.inl ⟨by rfl, ?y4⟩) hHeld ?_
        case y4 => intro w hSw; go_simp
        simp only [Act.put, List.getElem_toArray, List.getElem_cons_succ, List.getElem_cons_zero, List.setIfInBounds_toArray, List.set_cons_zero, List.set_cons_succ]
        refine wpAnyH_take (i := 5) (v := .int .i64 (k : Int)) rfl (by kernel_rfl) (by kernel_rfl) (by kernel_rfl) (fun _ _ _ h => h) (Or.inl ⟨by rfl, ?y5⟩) hHeld ?_
        case y5 => intro w hSw; go_simp
        simp only [Act.put, List.getElem_toArray, List.getElem_cons_succ, List.getElem_cons_zero, List.setIfInBounds_toArray, List.set_cons_zero, List.set_cons_succ]
        refine wpAnyH_take (i := 6) (v := .pointer (some ⟨b2, o2 + k * 19, Option.none⟩)) rfl (by kernel_rfl) (by kernel_rfl) (by kernel_rfl) (fun _ _ _ h => h) (Or.inl ⟨by rfl, ?y6⟩) hHeld ?_
        case y6 => intro w hSw; go_simp
        simp only [Act.put, List.getElem_toArray, List.getElem_cons_succ, List.getElem_cons_zero, List.setIfInBounds_toArray, List.set_cons_zero, List.set_cons_succ]
        refine wpAnyH_take (i := 7) (v := .agg C.toArray) rfl (by kernel_rfl) (by kernel_rfl) (by kernel_rfl) (fun _ _ _ h => h) (yieldsIf_load_mid (by rfl) 67 _ rfl b2 (o2 + k * 19) rfl C _ (fun w h => h.2) Tryz.underlying67 rfl hiC) hHeld ?_
        simp only [Act.put, List.getElem_toArray, List.getElem_cons_succ, List.getElem_cons_zero, List.setIfInBounds_toArray, List.set_cons_zero, List.set_cons_succ]
        refine wpAnyH_ready (rs := [8]) (by kernel_rfl) (by simp) ?_
        refine AllReadyH.cons rfl (fun K hK => ?_) AllReadyH.nil
        rw [if_pos (by rfl)]
        simp only [List.getElem_toArray, List.getElem_cons_succ, List.getElem_cons_zero]
        go_wp2_with fail
        have hq := eqStmt_any h l A C a1 a2 a3 a4 a c1 c2 c3 c4 c HAC.out.1 HAC.out.2 HK.out Hl.out _ HU.out.1.1.drew HU.out.1.2.drew HU.out.2.1.drew HU.out.2.2.drew
        refine hq.mono ?_
        rintro e w1 ⟨rfl, hb1⟩
        go_wp2_with fail
        refine hK.out _ _ ⟨rangeAt_later hHeld.1 hb1, rangeAt_later hHeld.2 hb1⟩ (fun hHeld => ?_)
        clear hq
        refine wpAnyH_take (i := 9) (v := .bool false) rfl (by kernel_rfl) (by kernel_rfl) (by kernel_rfl) (fun _ _ _ h => h) (Or.inl ⟨by rfl, ?y9⟩) hHeld ?_
        case y9 => intro w hSw; go_simp
        simp only [Act.put, List.getElem_toArray, List.getElem_cons_succ, List.getElem_cons_zero, List.setIfInBounds_toArray, List.set_cons_zero, List.set_cons_succ]
        refine wpAnyH_done (by kernel_rfl) ?_ _
        all_goals (try go_wp2_with fail)
        all_goals go_meet
        all_goals exact ⟨rfl, ⟨hb1.os, hb1.tape, hb1.output, hb1.size, hb1.block⟩⟩
      case rest =>
        obtain ⟨rfl, hb1⟩ := hcut
        have hbw2 := hbw.trans (hb1.mono hbw.size)
        clear ra rc hb1 hu hiA hiC lA lC
        go_wp2
        go_roundw
        case rel => exact ⟨r, k + 1, by go_num, He.out, hbw2⟩
        case measure => simp [RowKit.intOf]; omega
theorem eqStmtS_all : ∀ (n : Nat) (F : SF), snodes F < n → ssize F ≤ 1048576 → ∀ (w : World) (va vb : Value), SV w 0 F va → SV w 0 F vb → Calls Tryz.prog 21 #[va, vb] w fun e w' => e = .returned (.bool true) ∧ Below w.heap.size w w'
  | 0, _, h, _, _, _, _, _, _ => absurd h (by omega)
  | n + 1, F, h, hF, w, va, vb, ha, hb => eqStmtS_step F hF (fun l hl hk w va vb a b => eqStmtS_all n l (by omega) hk w va vb a b) w va vb ha hb
theorem eqStmtS_is (F : SF) (hF : ssize F ≤ 1048576) (w : World) (va vb : Value) (ha : SV w 0 F va) (hb : SV w 0 F vb) :
    Calls Tryz.prog 21 #[va, vb] w fun e w' => e = .returned (.bool true) ∧ Below w.heap.size w w' := eqStmtS_all _ F (Nat.lt_succ_self _) hF w va vb ha hb
end Go.Proofs.YtkhccpjkajhnpabGreatDoor
/-
  The contracts of toExp, toExpS: a copy in memory of its own.
-/
namespace Go.Proofs.YtkhccpjkajhnpabGreatDoor
open Go.RowKit Go.Lib
set_option linter.unusedSimpArgs false
set_option linter.unusedVariables false

theorem sizeIE : (Tryz.prog.info? 65).map (·.size) = some 4 := by kernel_rfl
theorem sizeLE : (Tryz.prog.info? 53).map (·.size) = some 4 := by kernel_rfl
theorem blk4 {w : World} {b : Nat} {x y z u : Value} {t : TypeId} (h : w.heap[b]? = some (.cells #[x, y, z, u] t (0, 0))) :
    (w.cell? ⟨b, 0, Option.none⟩ = some x ∧ w.cell? ⟨b, 1, Option.none⟩ = some y ∧ w.cell? ⟨b, 2, Option.none⟩ = some z ∧ w.cell? ⟨b, 3, Option.none⟩ = some u) ∧ w.frozen? ⟨b, 0, Option.none⟩ = false ∧ w.frozen? ⟨b, 1, Option.none⟩ = false ∧ w.frozen? ⟨b, 2, Option.none⟩ = false ∧ w.frozen? ⟨b, 3, Option.none⟩ = false := by
  simp [World.cell?, World.frozen?, h]
theorem set5 {w w1 : World} {N : Nat} (hb : Below w.heap.size w w1) (hN : w.heap.size = N) (p x y z u : Value) : Below w.heap.size w (((((w1.setCell ⟨N + 2, 3, Option.none⟩ p).setCell ⟨N + 1, 0, Option.none⟩ x).setCell ⟨N + 1, 1, Option.none⟩ y).setCell ⟨N + 1, 2, Option.none⟩ z).setCell ⟨N + 1, 3, Option.none⟩ u) ∧
    Keeps (w.heap.size + 3) w1 (((((w1.setCell ⟨N + 2, 3, Option.none⟩ p).setCell ⟨N + 1, 0, Option.none⟩ x).setCell ⟨N + 1, 1, Option.none⟩ y).setCell ⟨N + 1, 2, Option.none⟩ z).setCell ⟨N + 1, 3, Option.none⟩ u) := by
  subst hN
  exact ⟨((((hb.setCell (p := ⟨w.heap.size + 2, 3, Option.none⟩) (by simp) _).setCell (p := ⟨w.heap.size + 1, 0, Option.none⟩) (by simp) _).setCell (p := ⟨w.heap.size + 1, 1, Option.none⟩) (by simp) _).setCell (p := ⟨w.heap.size + 1, 2, Option.none⟩) (by simp) _).setCell (p := ⟨w.heap.size + 1, 3, Option.none⟩) (by simp) _,
    ((((Keeps.set _ _ (by simp) _).trans (Keeps.set _ _ (by simp) _)).trans (Keeps.set _ _ (by simp) _)).trans (Keeps.set _ _ (by simp) _)).trans (Keeps.set _ _ (by simp) _)⟩
set_option maxHeartbeats 1000000 in
theorem toExp_of (x : X)
    (ih : ∀ (w : World) (v : Value), EV w 0 x.l v → Calls Tryz.prog 76 #[v] w fun e w' => ∃ v', e = .returned v' ∧ EV w' w.heap.size x.l v' ∧ Below w.heap.size w w')
    (w : World) (v : Value) (hv : EV w 0 x.l v) :
    Calls Tryz.prog 58 #[.agg #[.int .i64 x.h.k, .int .i64 x.h.n, .string x.h.s, v]] w fun e w' => ∃ v', e = .returned (.agg #[.int .i64 x.h.k, .int .i64 x.h.n, .string x.h.s, v']) ∧ EV w' w.heap.size x.l v' ∧ Below w.heap.size w w' := by
  have Hih := Lib.hid ih
  clear ih
  obtain ⟨a, c, rfl⟩ := hv.shape
  have Hv := Lib.hid hv
  clear hv
  go_enter Tryz.func58, Tryz.ntmps58
  go_wp2_with fail
  have hb3 := ((alloc_below w (.cells #[.int .i64 x.h.k, .int .i64 x.h.n, .string x.h.s, .slice a (elen x.l) c] 53)).alloc (by simp) (.cells #[.int .i64 0, .int .i64 0, .string ⟨#[]⟩, .slice Option.none 0 0] 65)).alloc (by simp; omega) (.cells #[.int .i64 x.h.k, .int .i64 x.h.n, .string x.h.s, .slice Option.none 0 0] 65)
  obtain ⟨_, q1, q2⟩ := heap3 w (.cells #[.int .i64 x.h.k, .int .i64 x.h.n, .string x.h.s, .slice a (elen x.l) c] 53) (.cells #[.int .i64 0, .int .i64 0, .string ⟨#[]⟩, .slice Option.none 0 0] 65) (.cells #[.int .i64 x.h.k, .int .i64 x.h.n, .string x.h.s, .slice Option.none 0 0] 65)
  refine (Hih.out _ _ (Hv.out.later hb3)).mono ?_
  rintro e w1 ⟨v', rfl, hv', hb1⟩
  obtain ⟨a', c', rfl⟩ := hv'.shape
  have r1 := (hb1.block _ (by simp)).trans q1
  have r2 := (hb1.block _ (by simp)).trans q2
  have hb := hb3.trans (hb1.mono hb3.size)
  obtain ⟨⟨c0, c1, c2, c3⟩, f0, f1, f2, f3⟩ := blk4 r1
  obtain ⟨⟨d0, d1, d2, d3⟩, g0, g1, g2, g3⟩ := blk4 r2
  have Hv' := Lib.hid hv'
  have Hb := Lib.hid hb
  clear hb1 hb3 hv' q1 q2 r1 r2 hb
  go_wp2
  obtain ⟨hB, hK⟩ := set5 Hb.out rfl (.slice a' (elen x.l) c') (.int .i64 x.h.k) (.int .i64 x.h.n) (.string x.h.s) (.slice a' (elen x.l) c')
  refine bodyPost_ret (v := .agg #[.int .i64 x.h.k, .int .i64 x.h.n, .string x.h.s, .slice a' (elen x.l) c']) (by simp [results, Tryz.results58, go_sem, c0, c1, c2, c3]) rfl ⟨_, rfl, (Hv'.out.same (lo' := w.heap.size) (by simp; omega) (fun a v hl hc => hK a v (by simpa using hl) hc)), hB⟩
theorem infoIE : (Tryz.prog.info? 65).map (fun i => (i.zero, i.size, i.bytes)) = some (some (.agg #[.int .i64 0, .int .i64 0, .string ⟨#[]⟩, .slice Option.none 0 0]), 4, 56) := by kernel_rfl
/-- One more expression behind those that are laid. -/
theorem ERow.next {w w' : World} {lo g : Nat} {P : EF} {xs : List Value} {h : EH} {l : EF} {v : Value} (p q : Nat) (hP : ERow w lo P xs) (hk : Keeps lo w w') (hv : EV w' lo l v) (hr : w'.rangeAt g 0 xs) (h4 : w'.rangeAt g (elen P * 4) [.int .i64 h.k, .int .i64 h.n, .string h.s, v]) :
    ERow w' lo (eapp P (.node p q h l .nil)) (xs ++ [.int .i64 h.k, .int .i64 h.n, .string h.s, v]) ∧ w'.rangeAt g 0 (xs ++ [.int .i64 h.k, .int .i64 h.n, .string h.s, v]) :=
  ⟨(ERow.same (Nat.le_refl _) hk hP).app (ERow.one hv), rangeAt_app hr (by rw [hP.length, Nat.zero_add]; exact h4)⟩
theorem all4 (k n : Int) (t : ByteArray) (a : Option Addr) (l c : Nat) : (#[.int .i64 k, .int .i64 n, .string t, .slice a l c] : Array Value).all (·.oneCell') = true :=
  all_oneCell_toArray (cs := [.int .i64 k, .int .i64 n, .string t, .slice a l c]) (fun v hv => by
    simp only [List.mem_cons, List.not_mem_nil, or_false] at hv
    rcases hv with rfl | rfl | rfl | rfl <;> rfl)
set_option maxHeartbeats 400000 in
theorem toExpS_step (F : EF) (hF : esize F ≤ 1048576)
    (ih : ∀ l : EF, enodes l < enodes F → esize l ≤ 1048576 → ∀ (w : World) (v : Value), EV w 0 l v → Calls Tryz.prog 76 #[v] w fun e w' => ∃ v', e = .returned v' ∧ EV w' w.heap.size l v' ∧ Below w.heap.size w w')
    (w : World) (v : Value) (hv : EV w 0 F v) :
    Calls Tryz.prog 76 #[v] w fun e w' => ∃ v', e = .returned v' ∧ EV w' w.heap.size F v' ∧ Below w.heap.size w w' := by
  have hn : elen F ≤ 1048576 := Nat.le_trans (Nat.le_trans (elen_le F) (enodes_le F)) hF
  obtain ⟨b, o, ao, cap, rfl, hao, _, hin⟩ := hv
  obtain ⟨i0, hi, hz0, hz1, hz2⟩ := info_parts infoIE
  have Hih := Lib.hid ih
  clear ih
  go_enter Tryz.func76, Tryz.ntmps76
  go_wp2_with (refine wpList_make_full _ rfl _ _ 63 rfl w.heap.size 65 i0 _ 4 Tryz.underlying63 hi hz0 hz1 .i64 .i64 _ _ (elen F) rfl rfl rfl rfl ?c1 ?c2 ?c3 ?_)
  case c1 => rw [hz2]; omega
  case c2 => unfold maxLen; omega
  case c3 => exact Nat.le_refl _
  intro w1 hown hgrow
  obtain ⟨cur, hcur, _, hcs, _⟩ := own_block hown
  have hbw : Below w.heap.size w w1 := (Below.refl _ w).grown hgrow (Nat.le_refl _) (fun k hk => by cases hk)
  have Hth : Hid (w1.there w.heap.size 0 (elen F * 4)) := blk_there hcur (by omega)
  have hsz : w.heap.size < w1.heap.size := (Array.getElem?_eq_some_iff.1 hcur).1
  clear hown hgrow hcur hcs
  go_wp2
  go_loopw [4] (fun i wr => ∃ (P R : EF) (xs : List Value), i = .int .i64 (elen P : Int) ∧ Hid (eapp P R = F ∧ enodes R ≤ enodes F ∧ esize R ≤ 1048576) ∧ EIn w 0 R b (o + elen P * 4) ∧ Hid (wr.there w.heap.size 0 (elen F * 4) ∧ ERow wr (w.heap.size + 1) P xs ∧ wr.rangeAt w.heap.size 0 xs ∧ w.heap.size < wr.heap.size) ∧ Below w.heap.size w wr) (fun i _ => elen F - (RowKit.intOf i).toNat)
  case atStart => exact ⟨.nil, F, [], rfl, ⟨rfl, Nat.le_refl _, hF⟩, by simpa [elen] using hin, ⟨Hth.out, rfl, (fun j v hv => by simp at hv), hsz⟩, hbw⟩
  case round =>
    obtain ⟨P, R, xs, rfl, hr, hinR, hm, hbr⟩ := hrel
    obtain ⟨e1, e2, e3⟩ := hr.out
    have eL := congrArg elen e1
    rw [elen_app] at eL
    cases R with
    | nil =>
      have hk : ¬ (elen P : Int) < (elen F : Int) := by simp only [elen] at eL; omega
      rw [eapp_nil] at e1
      subst e1
      go_wp2
      go_ret
      exact ⟨_, rfl, EV.laid hm.out.2.1 hm.out.2.2.1 _ (by omega), hbr⟩
    | node p q h l r =>
      have hlt : (elen P : Int) < (elen F : Int) := by simp only [elen] at eL; omega
      rcases hao with rfl | hnil
      · obtain ⟨⟨a0, a1, a2, u, a3, hu⟩, hinr⟩ := EIn_node.1 (EIn_later hbr _ _ _ hinR)
        have hinr0 := (EIn_node.1 hinR).2
        simp only [enodes] at e2
        simp only [esize] at e3
        have Hl := Lib.hid (fun w v => Hih.out l (by omega) (by omega) w v)
        have He : Hid (eapp (eapp P (.node p q h l .nil)) r = F ∧ enodes r ≤ enodes F ∧ esize r ≤ 1048576) := ⟨by rw [eapp_snoc]; exact e1, by omega, by omega⟩
        have HeL : Hid (elen P + (elen r + 1) = elen F) := eL
        clear hr hinR e1 e2 e3 hinr hin eL
        go_wp2_with fail
        refine (toExp_of ⟨h, l⟩ Hl.out _ u hu).mono ?_
        rintro e w2 ⟨v', rfl, hv', hb2⟩
        obtain ⟨t1, t2, t3, t4⟩ := hm.out
        have t1' := there_later t1 hb2
        have hbw2 := hbr.trans (hb2.mono hbr.size)
        have ht4 : w2.there w.heap.size (elen P * 4) 4 := by have := there_part t1' (elen P * 4) 4 (by have := HeL.out; omega); rwa [Nat.zero_add] at this
        obtain ⟨a', c', rfl⟩ := hv'.shape
        clear a0 a1 a2 a3
        go_wp2_with (refine wpList_store_mid rfl 65 _ _ rfl _ _ _ rfl rfl ?ht sizeIE (all4 _ _ _ _ _ _) ?_)
        case ht => exact ht4
        have hks : Keeps (w.heap.size + 1) w2 (w2.setCells w.heap.size (elen P * 4) [.int .i64 h.k, .int .i64 h.n, .string h.s, .slice a' (elen l) c']) := Keeps.sets _ (by omega) _ _
        obtain ⟨n1, n2⟩ := ERow.next p q t2 ((Keeps.later hb2).trans hks) ((hv'.lower t4).same (Nat.le_refl _) hks) (World.rangeAt_setCells_apart (rangeAt_later t3 hb2) w.heap.size (elen P * 4) [.int .i64 h.k, .int .i64 h.n, .string h.s, .slice a' (elen l) c'] (.inr (.inl (by rw [t2.length]; omega)))) (World.rangeAt_setCells_same _ _ _ _ ht4)
        have n3 := World.there_setCells t1' w.heap.size (elen P * 4) [.int .i64 h.k, .int .i64 h.n, .string h.s, .slice a' (elen l) c']
        have n4 := below_sets [.int .i64 h.k, .int .i64 h.n, .string h.s, .slice a' (elen l) c'] (elen P * 4) hbw2 (Nat.le_refl _)
        have n5 : w.heap.size < (w2.setCells w.heap.size (elen P * 4) [.int .i64 h.k, .int .i64 h.n, .string h.s, .slice a' (elen l) c']).heap.size := by rw [size_sets]; exact Nat.lt_of_lt_of_le t4 hb2.size
        have hlen : elen (eapp P (.node p q h l .nil)) = elen P + 1 := by rw [elen_app]; rfl
        have N := Lib.hid (And.intro n1 (And.intro n2 (And.intro n3 (And.intro n5 hlen))))
        clear t1 t2 t3 t1' ht4 hv' hb2 hbw2 hks n1 n2 n3 n5 hlen hm hbr
        go_wp2
        go_roundw
        case rel =>
          obtain ⟨n1, n2, n3, n5, hlen⟩ := N.out
          exact ⟨eapp P (.node p q h l .nil), r, _, by rw [hlen]; go_num, He.out, by rw [hlen, show o + (elen P + 1) * 4 = o + elen P * 4 + 4 by omega]; exact hinr0, ⟨n3, n1, n2, n5⟩, n4⟩
        case measure => simp [RowKit.intOf]; omega
      · subst hnil; simp only [elen] at eL; omega
theorem toExpS_all : ∀ (n : Nat) (F : EF), enodes F < n → esize F ≤ 1048576 → ∀ (w : World) (v : Value), EV w 0 F v → Calls Tryz.prog 76 #[v] w fun e w' => ∃ v', e = .returned v' ∧ EV w' w.heap.size F v' ∧ Below w.heap.size w w'
  | 0, _, h, _, _, _, _ => absurd h (by omega)
  | n + 1, F, h, hF, w, v, hv => toExpS_step F hF (fun l hl hk w v a => toExpS_all n l (by omega) hk w v a) w v hv
theorem toExpS_is (F : EF) (hF : esize F ≤ 1048576) (w : World) (v : Value) (hv : EV w 0 F v) :
    Calls Tryz.prog 76 #[v] w fun e w' => ∃ v', e = .returned v' ∧ EV w' w.heap.size F v' ∧ Below w.heap.size w w' := toExpS_all _ F (Nat.lt_succ_self _) hF w v hv
theorem toExp_is (x : X) (hx : xsize x ≤ 1048576) (w : World) (v : Value) (hv : EV w 0 x.l v) :
    Calls Tryz.prog 58 #[.agg #[.int .i64 x.h.k, .int .i64 x.h.n, .string x.h.s, v]] w fun e w' => ∃ v', e = .returned (.agg #[.int .i64 x.h.k, .int .i64 x.h.n, .string x.h.s, v']) ∧ EV w' w.heap.size x.l v' ∧ Below w.heap.size w w' :=
  toExp_of x (fun w v a => toExpS_is x.l (by unfold xsize at hx; omega) w v a) w v hv
end Go.Proofs.YtkhccpjkajhnpabGreatDoor
/-
  The contracts of toStmt, toStmtS: a copy in memory of its own.
-/
namespace Go.Proofs.YtkhccpjkajhnpabGreatDoor
open Go.RowKit Go.Lib
set_option linter.unusedSimpArgs false
set_option linter.unusedVariables false

abbrev zero19 : Array Value := #[.int .i64 0, .string ⟨#[]⟩, .int .i64 0, .int .i64 0, .string ⟨#[]⟩, .slice Option.none 0 0, .int .i64 0, .int .i64 0, .string ⟨#[]⟩, .slice Option.none 0 0, .int .i64 0, .int .i64 0, .string ⟨#[]⟩, .slice Option.none 0 0, .int .i64 0, .int .i64 0, .string ⟨#[]⟩, .slice Option.none 0 0, .slice Option.none 0 0]
abbrev out19 (h : SH) : Array Value := #[.int .i64 h.k, .string h.s, .int .i64 0, .int .i64 0, .string ⟨#[]⟩, .slice Option.none 0 0, .int .i64 0, .int .i64 0, .string ⟨#[]⟩, .slice Option.none 0 0, .int .i64 0, .int .i64 0, .string ⟨#[]⟩, .slice Option.none 0 0, .int .i64 0, .int .i64 0, .string ⟨#[]⟩, .slice Option.none 0 0, .slice Option.none 0 0]
theorem oneX (x : X) (v : Value) (hv : v.oneCell' = true) : (xcells x v).toArray.all (·.oneCell') = true :=
  all_oneCell_toArray (fun u hu => by
    simp only [xcells, List.mem_cons, List.not_mem_nil, or_false] at hu
    rcases hu with rfl | rfl | rfl | rfl <;> first | rfl | exact hv)
theorem oneS (h : SH) (v1 v2 v3 v4 v : Value) (e1 : v1.oneCell' = true) (e2 : v2.oneCell' = true) (e3 : v3.oneCell' = true) (e4 : v4.oneCell' = true) (e5 : v.oneCell' = true) : (scells h v1 v2 v3 v4 v).toArray.all (·.oneCell') = true :=
  all_oneCell_toArray (fun u hu => by
    simp only [scells, xcells, List.mem_cons, List.mem_append, List.not_mem_nil, or_false] at hu
    rcases hu with rfl | rfl | (rfl | rfl | rfl | rfl) | (rfl | rfl | rfl | rfl) | (rfl | rfl | rfl | rfl) | (rfl | rfl | rfl | rfl) | rfl <;> first | rfl | assumption)
theorem sc19 (h : SH) (v1 v2 v3 v4 v : Value) : (sarr h v1 v2 v3 v4 v).toList = scells h v1 v2 v3 v4 v := rfl
/-- The five ranges of a statement that is laid bit by bit. -/
theorem join19 {w : World} {g : Nat} {h : SH} {v1 v2 v3 v4 v : Value} (r0 : w.rangeAt g 0 [.int .i64 h.k, .string h.s]) (r1 : w.rangeAt g 2 (xcells h.x1 v1)) (r2 : w.rangeAt g 6 (xcells h.x2 v2)) (r3 : w.rangeAt g 10 (xcells h.x3 v3)) (r4 : w.rangeAt g 14 (xcells h.x4 v4)) (r5 : w.rangeAt g 18 [v]) :
    w.rangeAt g 0 (scells h v1 v2 v3 v4 v) :=
  rangeAt_app (cs := [.int .i64 h.k, .string h.s]) r0 (rangeAt_app r1 (rangeAt_app r2 (rangeAt_app r3 (rangeAt_app r4 r5))))
/-- What a statement's copy knows at each of its steps: what came in at N, the place of the answer at N + 1, the copy at N + 2. -/
structure Mid (w0 : World) (N : Nat) (h : SH) (l : SF) (v1 v2 v3 v4 v : Value) (w : World) : Prop where
  src : w.rangeAt N 0 (scells h v1 v2 v3 v4 v)
  th1 : w.there (N + 1) 0 19
  th2 : w.there (N + 2) 0 19
  top : w.rangeAt (N + 2) 0 [.int .i64 h.k, .string h.s]
  low : Below w0.heap.size w0 w
  size : N + 3 ≤ w.heap.size
  n0 : w0.heap.size = N
theorem Mid.later {w0 w w' : World} {N : Nat} {h : SH} {l : SF} {v1 v2 v3 v4 v : Value} (m : Mid w0 N h l v1 v2 v3 v4 v w) (hb : Below w.heap.size w w') : Mid w0 N h l v1 v2 v3 v4 v w' :=
  ⟨rangeAt_later m.src hb, there_later m.th1 hb, there_later m.th2 hb, rangeAt_later m.top hb, m.low.trans (hb.mono m.low.size), Nat.le_trans m.size hb.size, m.n0⟩
theorem Mid.sets {w0 w : World} {N : Nat} {h : SH} {l : SF} {v1 v2 v3 v4 v : Value} (m : Mid w0 N h l v1 v2 v3 v4 v w) (o : Nat) (ho : 2 ≤ o) (vs : List Value) : Mid w0 N h l v1 v2 v3 v4 v (w.setCells (N + 2) o vs) :=
  ⟨World.rangeAt_setCells_apart m.src _ _ _ (.inl (by omega)), World.there_setCells m.th1 _ _ _, World.there_setCells m.th2 _ _ _, World.rangeAt_setCells_apart m.top _ _ _ (.inr (.inl (by simpa using ho))), below_sets _ _ m.low (by have := m.n0; omega), by rw [size_sets]; exact m.size, m.n0⟩
theorem Mid.x1 {w0 w : World} {N : Nat} {h : SH} {l : SF} {v1 v2 v3 v4 v : Value} (m : Mid w0 N h l v1 v2 v3 v4 v w) : w.rangeAt N 2 (xcells h.x1 v1) := by
  have := rangeAt_part (ds := [.int .i64 h.k, .string h.s]) (es := xcells h.x1 v1) m.src rfl; rwa [Nat.zero_add] at this
theorem Mid.x2 {w0 w : World} {N : Nat} {h : SH} {l : SF} {v1 v2 v3 v4 v : Value} (m : Mid w0 N h l v1 v2 v3 v4 v w) : w.rangeAt N 6 (xcells h.x2 v2) := by
  have := rangeAt_part (ds := [.int .i64 h.k, .string h.s] ++ xcells h.x1 v1) (es := xcells h.x2 v2) m.src rfl; rwa [Nat.zero_add] at this
theorem Mid.x3 {w0 w : World} {N : Nat} {h : SH} {l : SF} {v1 v2 v3 v4 v : Value} (m : Mid w0 N h l v1 v2 v3 v4 v w) : w.rangeAt N 10 (xcells h.x3 v3) := by
  have := rangeAt_part (ds := [.int .i64 h.k, .string h.s] ++ xcells h.x1 v1 ++ xcells h.x2 v2) (es := xcells h.x3 v3) m.src rfl; rwa [Nat.zero_add] at this
theorem Mid.x4 {w0 w : World} {N : Nat} {h : SH} {l : SF} {v1 v2 v3 v4 v : Value} (m : Mid w0 N h l v1 v2 v3 v4 v w) : w.rangeAt N 14 (xcells h.x4 v4) := by
  have := rangeAt_part (ds := [.int .i64 h.k, .string h.s] ++ xcells h.x1 v1 ++ xcells h.x2 v2 ++ xcells h.x3 v3) (es := xcells h.x4 v4) m.src rfl; rwa [Nat.zero_add] at this
theorem Mid.vb {w0 w : World} {N : Nat} {h : SH} {l : SF} {v1 v2 v3 v4 v : Value} (m : Mid w0 N h l v1 v2 v3 v4 v w) : w.cell? ⟨N, 18, Option.none⟩ = some v := by
  have := m.src 18 v rfl; rwa [Nat.zero_add] at this
theorem Mid.there4 {w0 w : World} {N : Nat} {h : SH} {l : SF} {v1 v2 v3 v4 v : Value} (m : Mid w0 N h l v1 v2 v3 v4 v w) (o : Nat) (ho : o + 4 ≤ 19) : w.there (N + 2) o 4 := by
  have := there_part m.th2 o 4 ho; rwa [Nat.zero_add] at this
theorem Mid.cell18 {w0 w : World} {N : Nat} {h : SH} {l : SF} {v1 v2 v3 v4 v : Value} (m : Mid w0 N h l v1 v2 v3 v4 v w) : (∃ u, w.cell? ⟨N + 2, 18, Option.none⟩ = some u) ∧ w.frozen? ⟨N + 2, 18, Option.none⟩ = false := by
  have := m.th2 18 (by omega); rw [Nat.zero_add] at this
  exact ⟨Option.isSome_iff_exists.1 this.1, this.2⟩
theorem Mid.start (w : World) (h : SH) (l : SF) (v1 v2 v3 v4 v : Value) : Mid w w.heap.size h l v1 v2 v3 v4 v (((w.alloc (.cells (sarr h v1 v2 v3 v4 v) 55)).alloc (.cells zero19 67)).alloc (.cells (out19 h) 67)) := by
  obtain ⟨q0, q1, q2⟩ := heap3 w (.cells (sarr h v1 v2 v3 v4 v) 55) (.cells zero19 67) (.cells (out19 h) 67)
  refine ⟨?_, blk_there q1 (Nat.le_refl 19), blk_there q2 (Nat.le_refl 19), ?_, ((alloc_below w _).alloc (by simp) _).alloc (by simp; omega) _, by simp, rfl⟩
  · have := blk_range q0; rwa [sc19] at this
  · have := blk_range q2
    have := rangeAt_part (ds := []) (es := [.int .i64 h.k, .string h.s]) this rfl
    exact this
/-- A part that is laid: its four cells, and what stands under it. -/
structure Got (w : World) (N o : Nat) (x : X) (u : Value) : Prop where
  rg : w.rangeAt (N + 2) o (xcells x u)
  ev : EV w (N + 3) x.l u
theorem Got.later {w w' : World} {N o : Nat} {x : X} {u : Value} (g : Got w N o x u) (hb : Below w.heap.size w w') : Got w' N o x u := ⟨rangeAt_later g.rg hb, g.ev.later hb⟩
theorem Got.sets {w W : World} {N o o' : Nat} {x : X} {u : Value} {vs : List Value} (g : Got w N o x u) (ho : o + 4 ≤ o') (hW : w.setCells (N + 2) o' vs = W) : Got W N o x u := by
  subst hW
  exact ⟨World.rangeAt_setCells_apart g.rg _ _ _ (.inr (.inl ho)), g.ev.same (Nat.le_refl _) (Keeps.sets _ (by omega) _ _)⟩
theorem Got.new {w W : World} {N o lo : Nat} {x : X} {u : Value} (ht : w.there (N + 2) o 4) (hu : EV w lo x.l u) (hlo : N + 3 ≤ lo) (hW : w.setCells (N + 2) o (xcells x u) = W) : Got W N o x u := by
  subst hW
  exact ⟨World.rangeAt_setCells_same _ _ _ _ ht, (hu.lower hlo).same (Nat.le_refl _) (Keeps.sets _ (by omega) _ _)⟩
theorem Mid.at {w0 w W : World} {N : Nat} {h : SH} {l : SF} {v1 v2 v3 v4 v : Value} {vs : List Value} (m : Mid w0 N h l v1 v2 v3 v4 v w) (o : Nat) (ho : 2 ≤ o) (hW : w.setCells (N + 2) o vs = W) : Mid w0 N h l v1 v2 v3 v4 v W := by subst hW; exact m.sets o ho vs
theorem store_abs {P : Program} {ops : Array Oper} {rest : List Oper} {op : Oper} {a : Act} {w : World} {Q : Exit → Act → World → Prop} (hgd : op.guard = none) (ty : TypeId) (x y : Operand) (ho : op.op = .store ty x y)
    (b o : Nat) (cells : Array Value) (hx : a.eval x = .pointer (some ⟨b, o, none⟩)) (hy : a.eval y = .agg cells)
    (ht : w.there b o cells.size) (hi : (P.info? ty).map (·.size) = some cells.size) (h1 : cells.all (·.oneCell') = true)
    (h : ∀ W, w.setCells b o cells.toList = W → wpList P ops Q rest (a.put op.dst undef) W) : wpList P ops Q (op :: rest) a w := wpList_store_mid hgd ty x y ho b o cells hx hy ht hi h1 (h _ rfl)
set_option maxHeartbeats 2000000 in
set_option maxRecDepth 100000 in
theorem toStmt_of (h : SH) (l : SF) (k1 : xsize h.x1 ≤ 1048576) (k2 : xsize h.x2 ≤ 1048576) (k3 : xsize h.x3 ≤ 1048576) (k4 : xsize h.x4 ≤ 1048576)
    (ih : ∀ (w : World) (v : Value), SV w 0 l v → Calls Tryz.prog 15 #[v] w fun e w' => ∃ v', e = .returned v' ∧ SV w' w.heap.size l v' ∧ Below w.heap.size w w')
    (w : World) (v1 v2 v3 v4 v : Value) (hv : HV w 0 h v1 v2 v3 v4) (hl : SV w 0 l v) :
    Calls Tryz.prog 35 #[sagg h v1 v2 v3 v4 v] w fun e w' => ∃ u1 u2 u3 u4 u, e = .returned (sagg h u1 u2 u3 u4 u) ∧ HV w' w.heap.size h u1 u2 u3 u4 ∧ SV w' w.heap.size l u ∧ Below w.heap.size w w' := by
  have Hih := Lib.hid ih
  have Hv := Lib.hid hv
  have Hl := Lib.hid hl
  have M0 := Lib.hid (Mid.start w h l v1 v2 v3 v4 v)
  clear ih hv hl
  go_enter Tryz.func35, Tryz.ntmps35
  go_wp2_with fail
  refine (toExp_is h.x1 k1 _ v1 (Hv.out.e1.later M0.out.low)).mono ?_
  rintro e w1 ⟨u1, rfl, hu1, hb1⟩
  have m1 := M0.out.later hb1
  have o1 := hu1.isOne
  have hlo1 := M0.out.size
  go_wp2_with (first | (refine store_abs rfl 65 _ _ rfl _ _ _ rfl rfl ?ht1 sizeIE ?ho1 ?_; exact (m1.there4 2 (by omega)); exact (oneX h.x1 u1 o1); intro W1 hW; have M1 := Lib.hid (m1.at 2 (by omega) hW); have G1 := Lib.hid (Got.new (x := h.x1) (m1.there4 2 (by omega)) hu1 hlo1 hW); have Ho1 := Lib.hid o1; clear hW m1 hu1 hb1 o1 hlo1 M0) | (refine wpList_load_mid rfl 53 _ rfl w.heap.size 6 rfl _ _ M1.out.x2 Tryz.underlying53 rfl sizeLE ?_))
  refine (toExp_is h.x2 k2 _ v2 (Hv.out.e2.later M1.out.low)).mono ?_
  rintro e w2 ⟨u2, rfl, hu2, hb2⟩
  have m2 := M1.out.later hb2
  have o2 := hu2.isOne
  have hlo2 := M1.out.size
  have G1 := Lib.hid (G1.out.later hb2)
  go_wp2_with (first | (refine store_abs rfl 65 _ _ rfl _ _ _ rfl rfl ?ht2 sizeIE ?ho2 ?_; exact (m2.there4 6 (by omega)); exact (oneX h.x2 u2 o2); intro W2 hW; have M2 := Lib.hid (m2.at 6 (by omega) hW); have G2 := Lib.hid (Got.new (x := h.x2) (m2.there4 6 (by omega)) hu2 hlo2 hW); have G1 := Lib.hid (G1.out.sets (o' := 6) (by omega) hW); have Ho2 := Lib.hid o2; clear hW m2 hu2 hb2 o2 hlo2 M1) | (refine wpList_load_mid rfl 53 _ rfl w.heap.size 10 rfl _ _ M2.out.x3 Tryz.underlying53 rfl sizeLE ?_))
  refine (toExp_is h.x3 k3 _ v3 (Hv.out.e3.later M2.out.low)).mono ?_
  rintro e w3 ⟨u3, rfl, hu3, hb3⟩
  have m3 := M2.out.later hb3
  have o3 := hu3.isOne
  have hlo3 := M2.out.size
  have G1 := Lib.hid (G1.out.later hb3)
  have G2 := Lib.hid (G2.out.later hb3)
  go_wp2_with (first | (refine store_abs rfl 65 _ _ rfl _ _ _ rfl rfl ?ht3 sizeIE ?ho3 ?_; exact (m3.there4 10 (by omega)); exact (oneX h.x3 u3 o3); intro W3 hW; have M3 := Lib.hid (m3.at 10 (by omega) hW); have G3 := Lib.hid (Got.new (x := h.x3) (m3.there4 10 (by omega)) hu3 hlo3 hW); have G1 := Lib.hid (G1.out.sets (o' := 10) (by omega) hW); have G2 := Lib.hid (G2.out.sets (o' := 10) (by omega) hW); have Ho3 := Lib.hid o3; clear hW m3 hu3 hb3 o3 hlo3 M2) | (refine wpList_load_mid rfl 53 _ rfl w.heap.size 14 rfl _ _ M3.out.x4 Tryz.underlying53 rfl sizeLE ?_))
  refine (toExp_is h.x4 k4 _ v4 (Hv.out.e4.later M3.out.low)).mono ?_
  rintro e w4 ⟨u4, rfl, hu4, hb4⟩
  have m4 := M3.out.later hb4
  have o4 := hu4.isOne
  have hlo4 := M3.out.size
  have G1 := Lib.hid (G1.out.later hb4)
  have G2 := Lib.hid (G2.out.later hb4)
  have G3 := Lib.hid (G3.out.later hb4)
  go_wp2_with (first | (refine store_abs rfl 65 _ _ rfl _ _ _ rfl rfl ?ht4 sizeIE ?ho4 ?_; exact (m4.there4 14 (by omega)); exact (oneX h.x4 u4 o4); intro W4 hW; have M4 := Lib.hid (m4.at 14 (by omega) hW); have G4 := Lib.hid (Got.new (x := h.x4) (m4.there4 14 (by omega)) hu4 hlo4 hW); have G1 := Lib.hid (G1.out.sets (o' := 14) (by omega) hW); have G2 := Lib.hid (G2.out.sets (o' := 14) (by omega) hW); have G3 := Lib.hid (G3.out.sets (o' := 14) (by omega) hW); have Ho4 := Lib.hid o4; clear hW m4 hu4 hb4 o4 hlo4 M3; have cb := M4.out.vb) )
  refine (Hih.out _ v (Hl.out.later M4.out.low)).mono ?_
  rintro e w5 ⟨u, rfl, hu, hb5⟩
  have m5 := M4.out.later hb5
  obtain ⟨⟨x18, c18⟩, f18⟩ := m5.cell18
  have Ho5 := Lib.hid hu.isOne
  have M5 := Lib.hid (m5.sets 18 (by omega) [u])
  have ks : Keeps (w.heap.size + 3) w5 (w5.setCells (w.heap.size + 2) 18 [u]) := Keeps.sets _ (by omega) _ _
  have D5 : Hid ((w5.setCells (w.heap.size + 2) 18 [u]).rangeAt (w.heap.size + 2) 18 [u] ∧ SV (w5.setCells (w.heap.size + 2) 18 [u]) (w.heap.size + 3) l u) := ⟨World.rangeAt_setCells_same _ _ _ _ (by have := there_part m5.th2 18 1 (by omega); rwa [Nat.zero_add] at this), (hu.lower M4.out.size).same (Nat.le_refl _) ks⟩
  have G1 := Lib.hid ((G1.out.later hb5).sets (o' := 18) (vs := [u]) (by omega) rfl)
  have G2 := Lib.hid ((G2.out.later hb5).sets (o' := 18) (vs := [u]) (by omega) rfl)
  have G3 := Lib.hid ((G3.out.later hb5).sets (o' := 18) (vs := [u]) (by omega) rfl)
  have G4 := Lib.hid ((G4.out.later hb5).sets (o' := 18) (vs := [u]) (by omega) rfl)
  obtain ⟨a5, c5, rfl⟩ := hu.shape
  have RG := Lib.hid (join19 M5.out.top G1.out.rg G2.out.rg G3.out.rg G4.out.rg D5.out.1)
  have HN : Hid (HV (w5.setCells (w.heap.size + 2) 18 [.slice a5 (slen l) c5]) (w.heap.size + 3) h u1 u2 u3 u4 ∧ SV (w5.setCells (w.heap.size + 2) 18 [.slice a5 (slen l) c5]) (w.heap.size + 3) l (.slice a5 (slen l) c5)) := ⟨⟨G1.out.ev, G2.out.ev, G3.out.ev, G4.out.ev⟩, D5.out.2⟩
  clear hu hb5 m5 ks M4 cb G1 G2 G3 G4 D5
  go_wp2_with (first | (refine wpList_load_mid rfl 67 _ rfl (w.heap.size + 2) 0 rfl _ _ RG.out Tryz.underlying67 rfl sizeIS ?_) | (refine store_abs rfl 67 _ _ rfl _ _ _ rfl rfl ?ht9 sizeIS ?ho9 ?_; exact M5.out.th1; exact (oneS h u1 u2 u3 u4 _ Ho1.out Ho2.out Ho3.out Ho4.out Ho5.out); intro W hW))
  have ks : Keeps (w.heap.size + 3) (w5.setCells (w.heap.size + 2) 18 [.slice a5 (slen l) c5]) W := by rw [← hW]; exact Keeps.sets _ (by omega) _ _
  have rg : W.rangeAt (w.heap.size + 1) 0 (scells h u1 u2 u3 u4 (.slice a5 (slen l) c5)) := by rw [← hW]; exact World.rangeAt_setCells_same _ _ _ _ M5.out.th1
  have hB : Below w.heap.size w W := by rw [← hW]; exact below_sets _ 0 M5.out.low (Nat.le_succ w.heap.size)
  obtain ⟨⟨g1, g2, g3, g4⟩, g5⟩ := HN.out
  have hlv := run_loadVar_mid W (w.heap.size + 1) 0 _ _ _ rg Tryz.underlying67 rfl sizeIS
  refine bodyPost_ret (v := sagg h u1 u2 u3 u4 (.slice a5 (slen l) c5)) ?_ rfl ⟨u1, u2, u3, u4, _, rfl, ⟨g1.same (by omega) ks, g2.same (by omega) ks, g3.same (by omega) ks, g4.same (by omega) ks⟩, g5.same (by omega) ks, hB⟩
  simp [results, Tryz.results35, asAddr, hlv]
  rfl
theorem infoIS : (Tryz.prog.info? 67).map (fun i => (i.zero, i.size, i.bytes)) = some (some (.agg zero19), 19, 272) := by kernel_rfl
/-- One more statement behind those that are laid. -/
theorem SRow.next {w w' : World} {lo g : Nat} {P : SF} {xs : List Value} {h : SH} {l : SF} {v1 v2 v3 v4 v : Value} (p q : Nat) (hP : SRow w lo P xs) (hk : Keeps lo w w') (h1 : HV w' lo h v1 v2 v3 v4) (hv : SV w' lo l v) (hr : w'.rangeAt g 0 xs) (h4 : w'.rangeAt g (slen P * 19) (scells h v1 v2 v3 v4 v)) :
    SRow w' lo (sapp P (.node p q h l .nil)) (xs ++ scells h v1 v2 v3 v4 v) ∧ w'.rangeAt g 0 (xs ++ scells h v1 v2 v3 v4 v) :=
  ⟨(SRow.same (Nat.le_refl _) hk hP).app (SRow.one h1.e1 h1.e2 h1.e3 h1.e4 hv), rangeAt_app hr (by rw [hP.length, Nat.zero_add]; exact h4)⟩
theorem HV.lower {w : World} {lo lo' : Nat} {h : SH} {v1 v2 v3 v4 : Value} (hv : HV w lo h v1 v2 v3 v4) (hlo : lo' ≤ lo) : HV w lo' h v1 v2 v3 v4 := ⟨hv.e1.lower hlo, hv.e2.lower hlo, hv.e3.lower hlo, hv.e4.lower hlo⟩
theorem HV.same {w w' : World} {lo lo' : Nat} {h : SH} {v1 v2 v3 v4 : Value} (hv : HV w lo h v1 v2 v3 v4) (hlo : lo' ≤ lo) (hs : Keeps lo w w') : HV w' lo' h v1 v2 v3 v4 := ⟨hv.e1.same hlo hs, hv.e2.same hlo hs, hv.e3.same hlo hs, hv.e4.same hlo hs⟩
set_option maxHeartbeats 1000000 in
set_option maxRecDepth 100000 in
theorem toStmtS_step (F : SF) (hF : ssize F ≤ 1048576)
    (ih : ∀ l : SF, snodes l < snodes F → ssize l ≤ 1048576 → ∀ (w : World) (v : Value), SV w 0 l v → Calls Tryz.prog 15 #[v] w fun e w' => ∃ v', e = .returned v' ∧ SV w' w.heap.size l v' ∧ Below w.heap.size w w')
    (w : World) (v : Value) (hv : SV w 0 F v) :
    Calls Tryz.prog 15 #[v] w fun e w' => ∃ v', e = .returned v' ∧ SV w' w.heap.size F v' ∧ Below w.heap.size w w' := by
  have hn : slen F ≤ 1048576 := Nat.le_trans (Nat.le_trans (slen_le F) (snodes_le F)) hF
  obtain ⟨b, o, ao, cap, rfl, hao, _, hin⟩ := hv
  obtain ⟨i0, hi, hz0, hz1, hz2⟩ := info_parts infoIS
  have Hih := Lib.hid ih
  clear ih
  go_enter Tryz.func15, Tryz.ntmps15
  go_wp2_with (refine wpList_make_full _ rfl _ _ 29 rfl w.heap.size 67 i0 _ 19 Tryz.underlying29 hi hz0 hz1 .i64 .i64 _ _ (slen F) rfl rfl rfl rfl ?c1 ?c2 ?c3 ?_)
  case c1 => rw [hz2]; omega
  case c2 => unfold maxLen; omega
  case c3 => exact Nat.le_refl _
  intro w1 hown hgrow
  obtain ⟨cur, hcur, _, hcs, _⟩ := own_block hown
  have hbw : Below w.heap.size w w1 := (Below.refl _ w).grown hgrow (Nat.le_refl _) (fun k hk => by cases hk)
  have Hth : Hid (w1.there w.heap.size 0 (slen F * 19)) := blk_there hcur (by omega)
  have hsz : w.heap.size < w1.heap.size := (Array.getElem?_eq_some_iff.1 hcur).1
  clear hown hgrow hcur hcs
  go_wp2
  go_loopw [4] (fun i wr => ∃ (P R : SF) (xs : List Value), i = .int .i64 (slen P : Int) ∧ Hid (sapp P R = F ∧ snodes R ≤ snodes F ∧ ssize R ≤ 1048576) ∧ SIn w 0 R b (o + slen P * 19) ∧ Hid (wr.there w.heap.size 0 (slen F * 19) ∧ SRow wr (w.heap.size + 1) P xs ∧ wr.rangeAt w.heap.size 0 xs ∧ w.heap.size < wr.heap.size) ∧ Below w.heap.size w wr) (fun i _ => slen F - (RowKit.intOf i).toNat)
  case atStart => exact ⟨.nil, F, [], rfl, ⟨rfl, Nat.le_refl _, hF⟩, by simpa [slen] using hin, ⟨Hth.out, rfl, (fun j v hv => by simp at hv), hsz⟩, hbw⟩
  case round =>
    obtain ⟨P, R, xs, rfl, hr, hinR, hm, hbr⟩ := hrel
    obtain ⟨e1, e2, e3⟩ := hr.out
    have eL := congrArg slen e1
    rw [slen_app] at eL
    cases R with
    | nil =>
      have hk : ¬ (slen P : Int) < (slen F : Int) := by simp only [slen] at eL; omega
      rw [sapp_nil] at e1
      subst e1
      go_wp2
      go_ret
      exact ⟨_, rfl, SV.laid hm.out.2.1 hm.out.2.2.1 _ (by omega), hbr⟩
    | node p q h l r =>
      have hlt : (slen P : Int) < (slen F : Int) := by simp only [slen] at eL; omega
      rcases hao with rfl | hnil
      · obtain ⟨hsc, hinr⟩ := SIn_node.1 (SIn_later hbr _ _ _ hinR)
        obtain ⟨v1, v2, v3, v4, u, hu, hul, hrg⟩ := hsc.range
        have Hrg := Lib.hid hrg
        have hinr0 := (SIn_node.1 hinR).2
        simp only [snodes] at e2
        simp only [ssize, hsize] at e3
        have Hl := Lib.hid (fun w v => Hih.out l (by omega) (by omega) w v)
        have He : Hid (sapp (sapp P (.node p q h l .nil)) r = F ∧ snodes r ≤ snodes F ∧ ssize r ≤ 1048576) := ⟨by rw [sapp_snoc]; exact e1, by omega, by omega⟩
        have HeL : Hid (slen P + (slen r + 1) = slen F) := eL
        have k1 : xsize h.x1 ≤ 1048576 := by omega
        have k2 : xsize h.x2 ≤ 1048576 := by omega
        have k3 : xsize h.x3 ≤ 1048576 := by omega
        have k4 : xsize h.x4 ≤ 1048576 := by omega
        clear hr hinR e1 e2 e3 hinr hin eL hsc hrg
        go_wp2_with (refine wpList_load_mid rfl 55 _ rfl b (o + slen P * 19) rfl _ _ Hrg.out Tryz.underlying55 rfl sizeLS ?_)
        refine (toStmt_of h l k1 k2 k3 k4 Hl.out _ v1 v2 v3 v4 u hu hul).mono ?_
        rintro e w2 ⟨y1, y2, y3, y4, y, rfl, hy, hyl, hb2⟩
        obtain ⟨t1, t2, t3, t4⟩ := hm.out
        have t1' := there_later t1 hb2
        have hbw2 := hbr.trans (hb2.mono hbr.size)
        have ht4 : w2.there w.heap.size (slen P * 19) 19 := by have := there_part t1' (slen P * 19) 19 (by have := HeL.out; omega); rwa [Nat.zero_add] at this
        have o1 := hy.e1.isOne
        have o2 := hy.e2.isOne
        have o3 := hy.e3.isOne
        have o4 := hy.e4.isOne
        have o5 := hyl.isOne
        have HT : Hid (SRow wr (w.heap.size + 1) P xs ∧ wr.rangeAt w.heap.size 0 xs) := ⟨t2, t3⟩
        clear Hrg hu hul k1 k2 k3 k4 Hl t2 t3
        have T4 := Lib.hid t4
        have HB2 := Lib.hid hb2
        have HBW := Lib.hid hbw2
        have HY := Lib.hid (And.intro hy hyl)
        have T1 := Lib.hid t1'
        clear hy hyl hb2 hbw2 t1' t1 t4
        go_wp2_with (refine store_abs rfl 67 _ _ rfl _ _ _ rfl rfl ?ht sizeIS ?ho ?_; exact ht4; exact (oneS h y1 y2 y3 y4 y o1 o2 o3 o4 o5); intro W hW; have HW := Lib.hid hW; clear hW)
        have hW := HW.out
        have t4 := T4.out
        have hb2 := HB2.out
        have hks : Keeps (w.heap.size + 1) w2 W := by rw [← hW]; exact Keeps.sets _ (by omega) _ _
        have N12 := SRow.next (g := w.heap.size) (w' := W) p q HT.out.1 ((Keeps.later hb2).trans hks) ((HY.out.1.lower t4).same (Nat.le_refl _) hks) ((HY.out.2.lower t4).same (Nat.le_refl _) hks) (by rw [← hW]; exact World.rangeAt_setCells_apart (rangeAt_later HT.out.2 hb2) w.heap.size (slen P * 19) _ (.inr (.inl (by rw [HT.out.1.length]; omega)))) (by rw [← hW]; exact World.rangeAt_setCells_same w2 w.heap.size (slen P * 19) (scells h y1 y2 y3 y4 y) ht4)
        have n3 : W.there w.heap.size 0 (slen F * 19) := by rw [← hW]; exact World.there_setCells T1.out _ _ _
        have n4 : Below w.heap.size w W := by rw [← hW]; exact below_sets _ _ HBW.out (Nat.le_refl _)
        have n5 : w.heap.size < W.heap.size := by rw [← hW, size_sets]; exact Nat.lt_of_lt_of_le t4 hb2.size
        have hlen : slen (sapp P (.node p q h l .nil)) = slen P + 1 := by rw [slen_app]; rfl
        go_roundw
        case rel =>
          exact ⟨sapp P (.node p q h l .nil), r, _, by rw [hlen]; go_num, He.out, by rw [hlen, show o + (slen P + 1) * 19 = o + slen P * 19 + 19 by omega]; exact hinr0, ⟨n3, N12.1, N12.2, n5⟩, n4⟩
        case measure => simp [RowKit.intOf]; omega
      · subst hnil; simp only [slen] at eL; omega
theorem toStmtS_all : ∀ (n : Nat) (F : SF), snodes F < n → ssize F ≤ 1048576 → ∀ (w : World) (v : Value), SV w 0 F v → Calls Tryz.prog 15 #[v] w fun e w' => ∃ v', e = .returned v' ∧ SV w' w.heap.size F v' ∧ Below w.heap.size w w'
  | 0, _, h, _, _, _, _ => absurd h (by omega)
  | n + 1, F, h, hF, w, v, hv => toStmtS_step F hF (fun l hl hk w v a => toStmtS_all n l (by omega) hk w v a) w v hv
theorem toStmtS_is (F : SF) (hF : ssize F ≤ 1048576) (w : World) (v : Value) (hv : SV w 0 F v) :
    Calls Tryz.prog 15 #[v] w fun e w' => ∃ v', e = .returned v' ∧ SV w' w.heap.size F v' ∧ Below w.heap.size w w' := toStmtS_all _ F (Nat.lt_succ_self _) hF w v hv
end Go.Proofs.YtkhccpjkajhnpabGreatDoor
/-
  What stands under a statement, under an expression; small laws on memory.
-/
namespace Go.Proofs.YtkhccpjkajhnpabGreatDoor
open Go.RowKit Go.Lib
set_option linter.unusedSimpArgs false
set_option linter.unusedVariables false

theorem retI {a b : Int} {R : Prop} (h : a = b) (r : R) : Ending.returned (.int .i64 a) = .returned (.int .i64 b) ∧ R := by subst h; exact ⟨rfl, r⟩
set_option maxHeartbeats 1000000 in
set_option maxRecDepth 100000 in
theorem bodyOf_is (h : SH) (v1 v2 v3 v4 v : Value) (w : World) : Calls Tryz.prog 81 #[.agg (scells h v1 v2 v3 v4 v).toArray] w fun e w' => e = .returned v ∧ Below w.heap.size w w' := by
  show Calls Tryz.prog 81 #[sagg h v1 v2 v3 v4 v] w _
  go_enter Tryz.func81, Tryz.ntmps81
  go_wp2
  go_ret
  exact ⟨rfl, alloc_below _ _⟩
theorem str_ne {s t : ByteArray} (h : ¬ s = t) : (s.toList == t.toList) = false := by
  rw [ByteArray.toList_eq, ByteArray.toList_eq, beq_eq_false_iff_ne]
  intro e
  exact h (ByteArray.ext (Array.toList_inj.1 e))
theorem int_ne {a b : Int} (h : ¬ a = b) : (a == b) = false := by rw [beq_eq_false_iff_ne]; exact h
theorem retB {a b : Bool} {R : Prop} (h : b = a) (r : R) : Ending.returned (.bool a) = .returned (.bool b) ∧ R := by subst h; exact ⟨rfl, r⟩
/-- Two blocks that were just laid. -/
theorem two_blk (w : World) (a b : Array Value) (s t : TypeId) : ((w.alloc (.cells a s)).alloc (.cells b t)).rangeAt w.heap.size 0 a.toList ∧ ((w.alloc (.cells a s)).alloc (.cells b t)).rangeAt (w.heap.size + 1) 0 b.toList ∧ Below w.heap.size w ((w.alloc (.cells a s)).alloc (.cells b t)) := by
  have e : ∀ (v : World) (o : Obj), (v.alloc o).heap = v.heap.push o := fun _ _ => rfl
  have q0 : ((w.alloc (.cells a s)).alloc (.cells b t)).heap[w.heap.size]? = some (.cells a s) := by rw [Below.heap_alloc _ _ _ (by simp), e]; simp
  have q1 : ((w.alloc (.cells a s)).alloc (.cells b t)).heap[(w.alloc (.cells a s)).heap.size]? = some (.cells b t) := (fun (v : World) (o : Obj) => (by rw [e]; simp : (v.alloc o).heap[v.heap.size]? = some o)) _ _
  have q2 : (w.alloc (.cells a s)).heap.size = w.heap.size + 1 := by simp
  rw [q2] at q1
  exact ⟨blk_range q0, blk_range q1, (alloc_below w _).alloc (by simp) _⟩
theorem x_range {w : World} {b o : Nat} {x : X} {v : Value} (a0 : w.cell? ⟨b, o, Option.none⟩ = some (.int .i64 x.h.k)) (a1 : w.cell? ⟨b, o + 1, Option.none⟩ = some (.int .i64 x.h.n)) (a2 : w.cell? ⟨b, o + 2, Option.none⟩ = some (.string x.h.s)) (a3 : w.cell? ⟨b, o + 3, Option.none⟩ = some v) : w.rangeAt b o (xcells x v) := fun j u hj => by
  match j, hj with
  | 0, hj => cases hj; exact a0
  | 1, hj => cases hj; exact a1
  | 2, hj => cases hj; exact a2
  | 3, hj => cases hj; exact a3
  | j + 4, hj => simp [xcells] at hj
set_option maxRecDepth 100000 in
theorem partsOf_is (x : X) (v : Value) (w : World) : Calls Tryz.prog 86 #[.agg (xcells x v).toArray] w fun e w' => e = .returned v ∧ Below w.heap.size w w' := by
  show Calls Tryz.prog 86 #[.agg #[.int .i64 x.h.k, .int .i64 x.h.n, .string x.h.s, v]] w _
  go_enter Tryz.func86, Tryz.ntmps86
  go_wp2
  go_ret
  exact ⟨rfl, alloc_below _ _⟩
theorem EV.laid0 {w : World} {g : Nat} {F : EF} {xs : List Value} (h : ERow w 0 F xs) (hr : w.rangeAt g 0 xs) (c : Nat) : EV w 0 F (.slice (some ⟨g, 0, Option.none⟩) (elen F) c) :=
  ⟨g, 0, _, c, rfl, .inl rfl, Nat.zero_le _, ERow.laid 0 h (by simpa [World.rangeAt] using hr)⟩
theorem SV.laid0 {w : World} {g : Nat} {F : SF} {xs : List Value} (h : SRow w 0 F xs) (hr : w.rangeAt g 0 xs) (c : Nat) : SV w 0 F (.slice (some ⟨g, 0, Option.none⟩) (slen F) c) :=
  ⟨g, 0, _, c, rfl, .inl rfl, Nat.zero_le _, SRow.laid 0 h (by simpa [World.rangeAt] using hr)⟩
end Go.Proofs.YtkhccpjkajhnpabGreatDoor
/-
  What it is that two expressions are the same.
-/
namespace Go.Proofs.YtkhccpjkajhnpabGreatDoor
open Go.RowKit Go.Lib
set_option linter.unusedSimpArgs false
set_option linter.unusedVariables false

def hsame (a b : EH) : Bool := decide (a.k = b.k) && decide (a.n = b.n) && decide (a.s = b.s)
def esame : EF → EF → Bool
  | .nil, .nil => true
  | .node _ _ h l r, .node _ _ h' l' r' => hsame h h' && (esame l l' && esame r r')
  | _, _ => false
def xsame (a b : X) : Bool := hsame a.h b.h && esame a.l b.l
theorem esame_len : ∀ F G : EF, esame F G = true → elen F = elen G
  | .nil, .nil, _ => rfl
  | .node _ _ h l r, .node _ _ h' l' r', e => by
    simp only [esame, Bool.and_eq_true] at e
    have := esame_len r r' e.2.2
    simp only [elen]; omega
  | .nil, .node _ _ _ _ _, e => by simp [esame] at e
  | .node _ _ _ _ _, .nil, e => by simp [esame] at e
theorem esame_node (p q p' q' : Nat) (h h' : EH) (l r l' r' : EF) : esame (.node p q h l r) (.node p' q' h' l' r') = (xsame ⟨h, l⟩ ⟨h', l'⟩ && esame r r') := by simp only [esame, xsame, Bool.and_assoc]
theorem esame_diff {F G : EF} (h : ¬ elen F = elen G) : esame F G = false := by
  cases e : esame F G with
  | false => rfl
  | true => exact absurd (esame_len F G e) h
end Go.Proofs.YtkhccpjkajhnpabGreatDoor
