/-
  Texts in one: AstEqS, AstUnder, AstSameP, AstSize, AstProg.
-/
import Derived.Test.YtfoghiminlbdaaaGreatZp
import Derived.Test.YtfoghiminlbdaaaGreatP01ofRun
import Derived.Deep.RegionHeld
namespace Go.Proofs.YtfoghiminlbdaaaGreat
open Go.RowKit Go.Lib
set_option linter.unusedSimpArgs false
set_option linter.unusedVariables false
theorem sizeIE2 : (Tryz.prog.info? 43).map (·.size) = some 4 := by kernel_rfl
section
variable {w : World} {b : Nat} {h : SH} {v1 v2 v3 v4 v : Value}
theorem part1 (r : w.rangeAt b 0 (scells h v1 v2 v3 v4 v)) : w.rangeAt b 2 (xcells h.x1 v1) := by
  have := rangeAt_part (ds := [.int .i64 h.k, .string h.s]) (es := xcells h.x1 v1) r rfl; rwa [Nat.zero_add] at this
theorem part2 (r : w.rangeAt b 0 (scells h v1 v2 v3 v4 v)) : w.rangeAt b 6 (xcells h.x2 v2) := by
  have := rangeAt_part (ds := [.int .i64 h.k, .string h.s] ++ xcells h.x1 v1) (es := xcells h.x2 v2) r rfl; rwa [Nat.zero_add] at this
theorem part3 (r : w.rangeAt b 0 (scells h v1 v2 v3 v4 v)) : w.rangeAt b 10 (xcells h.x3 v3) := by
  have := rangeAt_part (ds := [.int .i64 h.k, .string h.s] ++ xcells h.x1 v1 ++ xcells h.x2 v2) (es := xcells h.x3 v3) r rfl; rwa [Nat.zero_add] at this
theorem part4 (r : w.rangeAt b 0 (scells h v1 v2 v3 v4 v)) : w.rangeAt b 14 (xcells h.x4 v4) := by
  have := rangeAt_part (ds := [.int .i64 h.k, .string h.s] ++ xcells h.x1 v1 ++ xcells h.x2 v2 ++ xcells h.x3 v3) (es := xcells h.x4 v4) r rfl; rwa [Nat.zero_add] at this
theorem part5 (r : w.rangeAt b 0 (scells h v1 v2 v3 v4 v)) : w.cell? ⟨b, 18, Option.none⟩ = some v := by
  have := r 18 v rfl; rwa [Nat.zero_add] at this
end
structure Two (w0 w : World) (N : Nat) (g h : SH) (a1 a2 a3 a4 a b1 b2 b3 b4 b : Value) : Prop where
  r1 : w.rangeAt N 0 (scells g a1 a2 a3 a4 a)
  r2 : w.rangeAt (N + 1) 0 (scells h b1 b2 b3 b4 b)
  low : Below w0.heap.size w0 w
theorem Two.later {w0 w w' : World} {N : Nat} {g h : SH} {a1 a2 a3 a4 a b1 b2 b3 b4 b : Value} (t : Two w0 w N g h a1 a2 a3 a4 a b1 b2 b3 b4 b) (hb : Below w.heap.size w w') : Two w0 w' N g h a1 a2 a3 a4 a b1 b2 b3 b4 b :=
  ⟨rangeAt_later t.r1 hb, rangeAt_later t.r2 hb, t.low.trans (hb.mono t.low.size)⟩
theorem Two.start (w : World) (g h : SH) (a1 a2 a3 a4 a b1 b2 b3 b4 b : Value) (s t : TypeId) : Two w ((w.alloc (.cells (sarr g a1 a2 a3 a4 a) s)).alloc (.cells (sarr h b1 b2 b3 b4 b) t)) w.heap.size g h a1 a2 a3 a4 a b1 b2 b3 b4 b := by
  have e : ∀ (v : World) (o : Obj), (v.alloc o).heap = v.heap.push o := fun _ _ => rfl
  have q0 : ((w.alloc (.cells (sarr g a1 a2 a3 a4 a) s)).alloc (.cells (sarr h b1 b2 b3 b4 b) t)).heap[w.heap.size]? = some (.cells (sarr g a1 a2 a3 a4 a) s) := by rw [Below.heap_alloc _ _ _ (by simp), e]; simp
  have q1 : ((w.alloc (.cells (sarr g a1 a2 a3 a4 a) s)).alloc (.cells (sarr h b1 b2 b3 b4 b) t)).heap[(w.alloc (.cells (sarr g a1 a2 a3 a4 a) s)).heap.size]? = some (.cells (sarr h b1 b2 b3 b4 b) t) := (fun (v : World) (o : Obj) => (by rw [e]; simp : (v.alloc o).heap[v.heap.size]? = some o)) _ _
  have q2 : (w.alloc (.cells (sarr g a1 a2 a3 a4 a) s)).heap.size = w.heap.size + 1 := by simp
  rw [q2] at q1
  exact ⟨blk_range q0, blk_range q1, (alloc_below w _).alloc (by simp) _⟩
set_option maxHeartbeats 2000000 in
set_option maxRecDepth 100000 in
theorem eqStmt_of (h : SH) (l : SF) (k1 : xsize h.x1 ≤ 1048576) (k2 : xsize h.x2 ≤ 1048576) (k3 : xsize h.x3 ≤ 1048576) (k4 : xsize h.x4 ≤ 1048576)
    (ih : ∀ (w : World) (va vb : Value), SV w 0 l va → SV w 0 l vb → Calls Tryz.prog 62 #[va, vb] w fun e w' => e = .returned (.bool true) ∧ Below w.heap.size w w')
    (w : World) (a1 a2 a3 a4 a b1 b2 b3 b4 b : Value) (ha : HV w 0 h a1 a2 a3 a4) (hal : SV w 0 l a) (hb : HV w 0 h b1 b2 b3 b4) (hbl : SV w 0 l b) :
    Calls Tryz.prog 116 #[sagg h a1 a2 a3 a4 a, sagg h b1 b2 b3 b4 b] w fun e w' => e = .returned (.bool true) ∧ Below w.heap.size w w' := by
  have Hih := hid ih
  have HA := hid (And.intro ha hal)
  have HB := hid (And.intro hb hbl)
  have T0 := hid (Two.start w h h a1 a2 a3 a4 a b1 b2 b3 b4 b 119 119)
  clear ih ha hal hb hbl
  go_enter Tryz.func116, Tryz.ntmps116
  go_wp2_with fail
  refine (eqExp_is h.x1 k1 _ a1 b1 (HA.out.1.e1.later T0.out.low) (HB.out.1.e1.later T0.out.low)).mono ?_
  rintro e w1 ⟨rfl, hb1⟩
  have T1 := hid (T0.out.later hb1)
  clear hb1 T0
  go_wp2_with (first | (refine wpList_load_mid rfl 43 _ rfl w.heap.size 6 rfl _ _ (part2 T1.out.r1) Tryz.underlying43 rfl sizeIE2 ?_) | (refine wpList_load_mid rfl 43 _ rfl (w.heap.size + 1) 6 rfl _ _ (part2 T1.out.r2) Tryz.underlying43 rfl sizeIE2 ?_))
  refine (eqExp_is h.x2 k2 _ a2 b2 (HA.out.1.e2.later T1.out.low) (HB.out.1.e2.later T1.out.low)).mono ?_
  rintro e w2 ⟨rfl, hb2⟩
  have T2 := hid (T1.out.later hb2)
  clear hb2 T1
  go_wp2_with (first | (refine wpList_load_mid rfl 43 _ rfl w.heap.size 10 rfl _ _ (part3 T2.out.r1) Tryz.underlying43 rfl sizeIE2 ?_) | (refine wpList_load_mid rfl 43 _ rfl (w.heap.size + 1) 10 rfl _ _ (part3 T2.out.r2) Tryz.underlying43 rfl sizeIE2 ?_))
  refine (eqExp_is h.x3 k3 _ a3 b3 (HA.out.1.e3.later T2.out.low) (HB.out.1.e3.later T2.out.low)).mono ?_
  rintro e w3 ⟨rfl, hb3⟩
  have T3 := hid (T2.out.later hb3)
  clear hb3 T2
  go_wp2_with (first | (refine wpList_load_mid rfl 43 _ rfl w.heap.size 14 rfl _ _ (part4 T3.out.r1) Tryz.underlying43 rfl sizeIE2 ?_) | (refine wpList_load_mid rfl 43 _ rfl (w.heap.size + 1) 14 rfl _ _ (part4 T3.out.r2) Tryz.underlying43 rfl sizeIE2 ?_))
  refine (eqExp_is h.x4 k4 _ a4 b4 (HA.out.1.e4.later T3.out.low) (HB.out.1.e4.later T3.out.low)).mono ?_
  rintro e w4 ⟨rfl, hb4⟩
  have T4 := hid (T3.out.later hb4)
  clear hb4 T3
  have c1 := part5 T4.out.r1
  have c2 := part5 T4.out.r2
  go_wp2_with fail
  refine (Hih.out _ a b (HA.out.2.later T4.out.low) (HB.out.2.later T4.out.low)).mono ?_
  rintro e w5 ⟨rfl, hb5⟩
  have hB := (T4.out.later hb5).low
  clear hb5 T4 c1 c2
  go_wp2
  go_ret
  exact ⟨rfl, hB⟩
theorem HV.drew {w : World} {lo : Nat} {h : SH} {v1 v2 v3 v4 : Value} (hv : HV w lo h v1 v2 v3 v4) : HV w.drew lo h v1 v2 v3 v4 := ⟨hv.e1.drew, hv.e2.drew, hv.e3.drew, hv.e4.drew⟩
theorem eqStmt_any (h : SH) (l : SF) (A C : List Value) (a1 a2 a3 a4 a b1 b2 b3 b4 b : Value) (hA : A = scells h a1 a2 a3 a4 a) (hC : C = scells h b1 b2 b3 b4 b) (hk : xsize h.x1 ≤ 1048576 ∧ xsize h.x2 ≤ 1048576 ∧ xsize h.x3 ≤ 1048576 ∧ xsize h.x4 ≤ 1048576)
    (ih : ∀ (w : World) (va vb : Value), SV w 0 l va → SV w 0 l vb → Calls Tryz.prog 62 #[va, vb] w fun e w' => e = .returned (.bool true) ∧ Below w.heap.size w w')
    (w : World) (ha : HV w 0 h a1 a2 a3 a4) (hal : SV w 0 l a) (hb : HV w 0 h b1 b2 b3 b4) (hbl : SV w 0 l b) :
    Calls Tryz.prog 116 #[.agg A.toArray, .agg C.toArray] w fun e w' => e = .returned (.bool true) ∧ Below w.heap.size w w' := by
  subst hA hC
  exact eqStmt_of h l hk.1 hk.2.1 hk.2.2.1 hk.2.2.2 ih w a1 a2 a3 a4 a b1 b2 b3 b4 b ha hal hb hbl
set_option maxHeartbeats 2000000 in
set_option maxRecDepth 100000 in
theorem eqStmtS_step (F : SF) (hF : ssize F ≤ 1048576)
    (ih : ∀ l : SF, snodes l < snodes F → ssize l ≤ 1048576 → ∀ (w : World) (va vb : Value), SV w 0 l va → SV w 0 l vb → Calls Tryz.prog 62 #[va, vb] w fun e w' => e = .returned (.bool true) ∧ Below w.heap.size w w')
    (w : World) (va vb : Value) (ha : SV w 0 F va) (hb : SV w 0 F vb) :
    Calls Tryz.prog 62 #[va, vb] w fun e w' => e = .returned (.bool true) ∧ Below w.heap.size w w' := by
  have hn : slen F ≤ 1048576 := Nat.le_trans (Nat.le_trans (slen_le F) (snodes_le F)) hF
  obtain ⟨b1, o1, ao1, cap1, rfl, hao1, _, hin1⟩ := ha
  obtain ⟨b2, o2, ao2, cap2, rfl, hao2, _, hin2⟩ := hb
  have Hih := hid ih
  clear ih
  go_enter Tryz.func62, Tryz.ntmps62
  go_wp2
  go_loopw [5] (fun i wr => ∃ (R : SF) (k : Nat), i = .int .i64 (k : Int) ∧ Hid (k + slen R = slen F ∧ snodes R ≤ snodes F ∧ ssize R ≤ 1048576 ∧ SIn w 0 R b1 (o1 + k * 19) ∧ SIn w 0 R b2 (o2 + k * 19)) ∧ Below w.heap.size w wr) (fun i _ => slen F - (RowKit.intOf i).toNat)
  case atStart => exact ⟨F, 0, rfl, ⟨by omega, Nat.le_refl _, hF, by simpa using hin1, by simpa using hin2⟩, Below.refl _ _⟩
  case round =>
    obtain ⟨R, k, rfl, hr, hbw⟩ := hrel
    obtain ⟨e1, e2, e5, e3, e4⟩ := hr.out
    cases R with
    | nil =>
      have hk : ¬ (k : Int) < (slen F : Int) := by simp only [slen] at e1; omega
      go_wp2
      go_ret
      exact ⟨rfl, hbw⟩
    | node p q h l r =>
      have hlt : (k : Int) < (slen F : Int) := by simp only [slen] at e1; omega
      have hk0 : (0 : Int) ≤ (k : Int) := by omega
      have hne : ¬ F = .nil := by intro e; subst e; simp only [slen] at e1; omega
      obtain rfl : ao1 = some ⟨b1, o1, Option.none⟩ := hao1.resolve_right hne
      obtain rfl : ao2 = some ⟨b2, o2, Option.none⟩ := hao2.resolve_right hne
      obtain ⟨a1, a2, a3, a4, a, hva, hal, ra⟩ := (SIn_node.1 (SIn_later hbw _ _ _ e3)).1.range
      obtain ⟨c1, c2, c3, c4, c, hvc, hcl, rc⟩ := (SIn_node.1 (SIn_later hbw _ _ _ e4)).1.range
      simp only [snodes] at e2
      simp only [ssize, hsize] at e5
      have Hl := hid (fun w va vb => Hih.out l (by omega) (by omega) w va vb)
      have He : Hid (k + 1 + slen r = slen F ∧ snodes r ≤ snodes F ∧ ssize r ≤ 1048576 ∧ SIn w 0 r b1 (o1 + (k + 1) * 19) ∧ SIn w 0 r b2 (o2 + (k + 1) * 19)) := ⟨by simp only [slen] at e1; omega, by omega, by omega, by rw [show o1 + (k + 1) * 19 = o1 + k * 19 + 19 by omega]; exact (SIn_node.1 e3).2, by rw [show o2 + (k + 1) * 19 = o2 + k * 19 + 19 by omega]; exact (SIn_node.1 e4).2⟩
      have HU : Hid ((HV wr 0 h a1 a2 a3 a4 ∧ SV wr 0 l a) ∧ (HV wr 0 h c1 c2 c3 c4 ∧ SV wr 0 l c)) := ⟨⟨hva, hal⟩, ⟨hvc, hcl⟩⟩
      have HK : Hid (xsize h.x1 ≤ 1048576 ∧ xsize h.x2 ≤ 1048576 ∧ xsize h.x3 ≤ 1048576 ∧ xsize h.x4 ≤ 1048576) := ⟨by omega, by omega, by omega, by omega⟩
      obtain ⟨A, hA⟩ : ∃ A, A = scells h a1 a2 a3 a4 a := ⟨_, rfl⟩
      obtain ⟨C, hC⟩ : ∃ C, C = scells h c1 c2 c3 c4 c := ⟨_, rfl⟩
      rw [← hA] at ra
      rw [← hC] at rc
      have lA : A.length = 19 := by rw [hA]; rfl
      have lC : C.length = 19 := by rw [hC]; rfl
      have hu := Tryz.underlying119
      have hiA : (Tryz.prog.info? 119).map (·.size) = some A.length := by rw [lA]; exact sizeIS
      have hiC : (Tryz.prog.info? 119).map (·.size) = some C.length := by rw [lC]; exact sizeIS
      have HAC : Hid (A = scells h a1 a2 a3 a4 a ∧ C = scells h c1 c2 c3 c4 c) := ⟨hA, hC⟩
      clear hr e1 e2 e3 e4 e5 hin1 hin2 hne hao1 hao2 hva hal hvc hcl hA hC
      go_wp2_with fail
      go_cut [26] from 11 to 26 (fun v wx => v = .bool false ∧ Below wr.heap.size wr wx)
      case first =>
        refine wp_region_held_drew (S := fun w' => w'.rangeAt b1 (o1 + k * 19) A ∧ w'.rangeAt b2 (o2 + k * 19) C) (by kernel_rfl) ⟨(World.rangeAt_drew _ _ _ _).2 ra, (World.rangeAt_drew _ _ _ _).2 rc⟩ (fun hHeld => ?_)
        refine wpAnyH_take (i := 0) (v := .slice (some ⟨b1, o1, Option.none⟩) (slen F) cap1) rfl (by kernel_rfl) (by kernel_rfl) (by kernel_rfl) (fun _ _ _ h => h) (Or.inl ⟨by rfl, ?y0⟩) hHeld ?_
        case y0 => intro w hSw; go_simp
        simp only [Act.put, zp]
        refine wpAnyH_take (i := 1) (v := .int .i64 (k : Int)) rfl (by kernel_rfl) (by kernel_rfl) (by kernel_rfl) (fun _ _ _ h => h) (Or.inl ⟨by rfl, ?y1⟩) hHeld ?_
        case y1 => intro w hSw; go_simp
        simp only [Act.put, zp]
        refine wpAnyH_take (i := 2) (v := .pointer (some ⟨b1, o1 + k * 19, Option.none⟩)) rfl (by kernel_rfl) (by kernel_rfl) (by kernel_rfl) (fun _ _ _ h => h) (Or.inl ⟨by rfl, ?y2⟩) hHeld ?_
        case y2 => intro w hSw; go_simp
        simp only [Act.put, zp]
        refine wpAnyH_take (i := 3) (v := .agg A.toArray) rfl (by kernel_rfl) (by kernel_rfl) (by kernel_rfl) (fun _ _ _ h => h) (yieldsIf_load_mid (by rfl) 119 _ rfl b1 (o1 + k * 19) rfl A _ (fun w h => h.1) Tryz.underlying119 rfl hiA) hHeld ?_
        simp only [Act.put, zp]
        refine wpAnyH_take (i := 4) (v := .slice (some ⟨b2, o2, Option.none⟩) (slen F) cap2) rfl (by kernel_rfl) (by kernel_rfl) (by kernel_rfl) (fun _ _ _ h => h) (Or.inl ⟨by rfl, ?y4⟩) hHeld ?_
        case y4 => intro w hSw; go_simp
        simp only [Act.put, zp]
        refine wpAnyH_take (i := 5) (v := .int .i64 (k : Int)) rfl (by kernel_rfl) (by kernel_rfl) (by kernel_rfl) (fun _ _ _ h => h) (Or.inl ⟨by rfl, ?y5⟩) hHeld ?_
        case y5 => intro w hSw; go_simp
        simp only [Act.put, zp]
        refine wpAnyH_take (i := 6) (v := .pointer (some ⟨b2, o2 + k * 19, Option.none⟩)) rfl (by kernel_rfl) (by kernel_rfl) (by kernel_rfl) (fun _ _ _ h => h) (Or.inl ⟨by rfl, ?y6⟩) hHeld ?_
        case y6 => intro w hSw; go_simp
        simp only [Act.put, zp]
        refine wpAnyH_take (i := 7) (v := .agg C.toArray) rfl (by kernel_rfl) (by kernel_rfl) (by kernel_rfl) (fun _ _ _ h => h) (yieldsIf_load_mid (by rfl) 119 _ rfl b2 (o2 + k * 19) rfl C _ (fun w h => h.2) Tryz.underlying119 rfl hiC) hHeld ?_
        simp only [Act.put, zp]
        refine wpAnyH_ready (rs := [8]) (by kernel_rfl) (by simp) ?_
        refine AllReadyH.cons rfl (fun K hK => ?_) AllReadyH.nil
        rw [if_pos (by rfl)]
        simp only [zq]
        go_wp2_with fail
        have hq := eqStmt_any h l A C a1 a2 a3 a4 a c1 c2 c3 c4 c HAC.out.1 HAC.out.2 HK.out Hl.out _ HU.out.1.1.drew HU.out.1.2.drew HU.out.2.1.drew HU.out.2.2.drew
        refine hq.mono ?_
        rintro e w1 ⟨rfl, hb1⟩
        go_wp2_with fail
        refine hK.out _ _ ⟨rangeAt_later hHeld.1 hb1, rangeAt_later hHeld.2 hb1⟩ (fun hHeld => ?_)
        clear hq
        refine wpAnyH_take (i := 9) (v := .bool false) rfl (by kernel_rfl) (by kernel_rfl) (by kernel_rfl) (fun _ _ _ h => h) (Or.inl ⟨by rfl, ?y9⟩) hHeld ?_
        case y9 => intro w hSw; go_simp
        simp only [Act.put, zp]
        refine wpAnyH_done (by kernel_rfl) ?_ _
        all_goals (try go_wp2_with fail)
        all_goals go_meet
        all_goals exact ⟨rfl, ⟨hb1.os, hb1.tape, hb1.output, hb1.size, hb1.block⟩⟩
      case rest =>
        obtain ⟨rfl, hb1⟩ := hcut
        have hbw2 := hbw.trans (hb1.mono hbw.size)
        clear ra rc hb1 hu hiA hiC lA lC
        go_wp2
        go_roundw
        case rel => exact ⟨r, k + 1, by go_num, He.out, hbw2⟩
        case measure => simp [RowKit.intOf]; omega
theorem eqStmtS_all : ∀ (n : Nat) (F : SF), snodes F < n → ssize F ≤ 1048576 → ∀ (w : World) (va vb : Value), SV w 0 F va → SV w 0 F vb → Calls Tryz.prog 62 #[va, vb] w fun e w' => e = .returned (.bool true) ∧ Below w.heap.size w w'
  | 0, _, h, _, _, _, _, _, _ => absurd h (by omega)
  | n + 1, F, h, hF, w, va, vb, ha, hb => eqStmtS_step F hF (fun l hl hk w va vb a b => eqStmtS_all n l (by omega) hk w va vb a b) w va vb ha hb
theorem eqStmtS_is (F : SF) (hF : ssize F ≤ 1048576) (w : World) (va vb : Value) (ha : SV w 0 F va) (hb : SV w 0 F vb) :
    Calls Tryz.prog 62 #[va, vb] w fun e w' => e = .returned (.bool true) ∧ Below w.heap.size w w' := eqStmtS_all _ F (Nat.lt_succ_self _) hF w va vb ha hb
theorem retI {a b : Int} {R : Prop} (h : a = b) (r : R) : Ending.returned (.int .i64 a) = .returned (.int .i64 b) ∧ R := by subst h; exact ⟨rfl, r⟩
set_option maxHeartbeats 1000000 in
set_option maxRecDepth 100000 in
theorem bodyOf_is (h : SH) (v1 v2 v3 v4 v : Value) (w : World) : Calls Tryz.prog 134 #[.agg (scells h v1 v2 v3 v4 v).toArray] w fun e w' => e = .returned v ∧ Below w.heap.size w w' := by
  show Calls Tryz.prog 134 #[sagg h v1 v2 v3 v4 v] w _
  go_enter Tryz.func134, Tryz.ntmps134
  go_wp2
  go_ret
  exact ⟨rfl, alloc_below _ _⟩
theorem str_ne {s t : ByteArray} (h : ¬ s = t) : (s.toList == t.toList) = false := by
  rw [ByteArray.toList_eq, ByteArray.toList_eq, beq_eq_false_iff_ne]
  intro e
  exact h (ByteArray.ext (Array.toList_inj.1 e))
theorem int_ne {a b : Int} (h : ¬ a = b) : (a == b) = false := by rw [beq_eq_false_iff_ne]; exact h
theorem retB {a b : Bool} {R : Prop} (h : b = a) (r : R) : Ending.returned (.bool a) = .returned (.bool b) ∧ R := by subst h; exact ⟨rfl, r⟩
theorem two_blk (w : World) (a b : Array Value) (s t : TypeId) : ((w.alloc (.cells a s)).alloc (.cells b t)).rangeAt w.heap.size 0 a.toList ∧ ((w.alloc (.cells a s)).alloc (.cells b t)).rangeAt (w.heap.size + 1) 0 b.toList ∧ Below w.heap.size w ((w.alloc (.cells a s)).alloc (.cells b t)) := by
  have e : ∀ (v : World) (o : Obj), (v.alloc o).heap = v.heap.push o := fun _ _ => rfl
  have q0 : ((w.alloc (.cells a s)).alloc (.cells b t)).heap[w.heap.size]? = some (.cells a s) := by rw [Below.heap_alloc _ _ _ (by simp), e]; simp
  have q1 : ((w.alloc (.cells a s)).alloc (.cells b t)).heap[(w.alloc (.cells a s)).heap.size]? = some (.cells b t) := (fun (v : World) (o : Obj) => (by rw [e]; simp : (v.alloc o).heap[v.heap.size]? = some o)) _ _
  have q2 : (w.alloc (.cells a s)).heap.size = w.heap.size + 1 := by simp
  rw [q2] at q1
  exact ⟨blk_range q0, blk_range q1, (alloc_below w _).alloc (by simp) _⟩
theorem x_range {w : World} {b o : Nat} {x : X} {v : Value} (a0 : w.cell? ⟨b, o, Option.none⟩ = some (.int .i64 x.h.k)) (a1 : w.cell? ⟨b, o + 1, Option.none⟩ = some (.int .i64 x.h.n)) (a2 : w.cell? ⟨b, o + 2, Option.none⟩ = some (.string x.h.s)) (a3 : w.cell? ⟨b, o + 3, Option.none⟩ = some v) : w.rangeAt b o (xcells x v) := fun j u hj => by
  match j, hj with
  | 0, hj => cases hj; exact a0
  | 1, hj => cases hj; exact a1
  | 2, hj => cases hj; exact a2
  | 3, hj => cases hj; exact a3
  | j + 4, hj => simp [xcells] at hj
set_option maxRecDepth 100000 in
theorem partsOf_is (x : X) (v : Value) (w : World) : Calls Tryz.prog 101 #[.agg (xcells x v).toArray] w fun e w' => e = .returned v ∧ Below w.heap.size w w' := by
  show Calls Tryz.prog 101 #[.agg #[.int .i64 x.h.k, .int .i64 x.h.n, .string x.h.s, v]] w _
  go_enter Tryz.func101, Tryz.ntmps101
  go_wp2
  go_ret
  exact ⟨rfl, alloc_below _ _⟩
theorem EV.laid0 {w : World} {g : Nat} {F : EF} {xs : List Value} (h : ERow w 0 F xs) (hr : w.rangeAt g 0 xs) (c : Nat) : EV w 0 F (.slice (some ⟨g, 0, Option.none⟩) (elen F) c) :=
  ⟨g, 0, _, c, rfl, .inl rfl, Nat.zero_le _, ERow.laid 0 h (by simpa [World.rangeAt] using hr)⟩
theorem SV.laid0 {w : World} {g : Nat} {F : SF} {xs : List Value} (h : SRow w 0 F xs) (hr : w.rangeAt g 0 xs) (c : Nat) : SV w 0 F (.slice (some ⟨g, 0, Option.none⟩) (slen F) c) :=
  ⟨g, 0, _, c, rfl, .inl rfl, Nat.zero_le _, SRow.laid 0 h (by simpa [World.rangeAt] using hr)⟩
def hsame (a b : EH) : Bool := decide (a.k = b.k) && decide (a.n = b.n) && decide (a.s = b.s)
set_option maxHeartbeats 1000000 in
theorem spec_Size_step (F : SF) (hF : snodes F ≤ 10000000)
    (ih : ∀ l : SF, snodes l < snodes F → ∀ (w : World) (v : Value), SV w 0 l v → Calls Tryz.prog 145 #[v] w fun e w' => e = .returned (.int .i64 (snodes l : Int)) ∧ Below w.heap.size w w')
    (w : World) (v : Value) (hv : SV w 0 F v) :
    Calls Tryz.prog 145 #[v] w fun e w' => e = .returned (.int .i64 (snodes F : Int)) ∧ Below w.heap.size w w' := by
  obtain ⟨b, o, ao, cap, rfl, hao, _, hin⟩ := hv
  have Hih := hid ih
  have hlenF := slen_le F
  clear ih
  go_enter Tryz.func145, Tryz.ntmps145
  go_wp2
  go_loopw [3, 4] (fun x i wr => ∃ (R : SF) (k c : Nat), i = .int .i64 (k : Int) ∧ x = .int .i64 (c : Int) ∧ Hid (k + slen R = slen F ∧ c + snodes R = snodes F ∧ SIn w 0 R b (o + k * 19)) ∧ Below w.heap.size w wr) (fun _ i _ => slen F - (RowKit.intOf i).toNat)
  case atStart => exact ⟨F, 0, 0, rfl, rfl, ⟨by omega, by omega, by simpa using hin⟩, Below.refl _ _⟩
  case round =>
    obtain ⟨R, k, c, rfl, rfl, hr, hbw⟩ := hrel
    obtain ⟨e1, e2, e3⟩ := hr.out
    cases R with
    | nil =>
      have hk : ¬ (k : Int) < (slen F : Int) := by simp only [slen] at e1; omega
      simp only [snodes] at e2
      go_wp2
      go_ret
      exact retI (by omega) hbw
    | node p q h l r =>
      have hlt : (k : Int) < (slen F : Int) := by simp only [slen] at e1; omega
      have hne : ¬ F = .nil := by intro e; subst e; simp only [slen] at e1; omega
      obtain rfl : ao = some ⟨b, o, Option.none⟩ := hao.resolve_right hne
      obtain ⟨hsc, hinr⟩ := SIn_node.1 (SIn_later hbw _ _ _ e3)
      obtain ⟨_, _, _, _, _, _, u, c18, hu⟩ := hsc
      simp only [snodes] at e2
      have Hl := hid (Hih.out l (by omega))
      have He : Hid (k + 1 + slen r = slen F ∧ c + 1 + snodes l + snodes r = snodes F ∧ SIn w 0 r b (o + (k + 1) * 19)) := ⟨by simp only [slen] at e1; omega, by omega, by rw [show o + (k + 1) * 19 = o + k * 19 + 19 by omega]; exact (SIn_node.1 e3).2⟩
      have hc1 : (c : Int) + 1 ≤ 10000000 := by omega
      have hl1 : (snodes l : Int) ≤ 10000000 := by omega
      clear hr e1 e2 e3 hinr hin hne hao
      go_wp2_with fail
      refine (Hl.out _ u hu).mono ?_
      rintro e w1 ⟨rfl, hb1⟩
      have hbw1 := hbw.trans (hb1.mono hbw.size)
      clear hb1 hbw c18 hu
      go_wp2
      go_roundw
      case rel => exact ⟨r, k + 1, c + 1 + snodes l, by go_num, by go_num, He.out, hbw1⟩
      case measure => simp [RowKit.intOf]; omega
theorem spec_Size_all : ∀ (n : Nat) (F : SF), snodes F < n → snodes F ≤ 10000000 → ∀ (w : World) (v : Value), SV w 0 F v → Calls Tryz.prog 145 #[v] w fun e w' => e = .returned (.int .i64 (snodes F : Int)) ∧ Below w.heap.size w w'
  | 0, _, h, _, _, _, _ => absurd h (by omega)
  | n + 1, F, h, hF, w, v, hv => spec_Size_step F hF (fun l hl w v a => spec_Size_all n l (by omega) (by omega) w v a) w v hv
theorem spec_Size (F : SF) (hF : snodes F ≤ 10000000) (w : World) (v : Value) (hv : SV w 0 F v) :
    Calls Tryz.prog 145 #[v] w fun e w' => e = .returned (.int .i64 (snodes F : Int)) ∧ Below w.heap.size w w' := spec_Size_all _ F (Nat.lt_succ_self _) hF w v hv
set_option maxHeartbeats 1000000 in
theorem szProg_is (ts : List AR) (F : SF) (hts : ∀ t ∈ ts, t.s.size ≤ 9223372036854775807) (hM : ts.length ≤ 9223372036854775807) (hF : sok F) (hS : slen F ≤ 9223372036854775807) (va vb : Value) (w : World) (ha : AV w 0 va ts) (hb : SV w 0 F vb) :
    Calls Tryz.prog 22 #[.agg #[va, vb], .int .i64 1048576] w (Sz (asize ts + ssize F) 1048576 w) := by
  have H := hid (And.intro hts (And.intro hM (And.intro hF (And.intro hS (And.intro ha hb)))))
  obtain ⟨a1, c1, rfl⟩ := ha.shape
  obtain ⟨a2, c2, rfl⟩ := hb.shape
  clear ha hb hts hM hF hS
  go_enter Tryz.func22, Tryz.ntmps22
  go_wp2_with fail
  refine (szArrS_is ts H.out.1 H.out.2.1 _ _ (H.out.2.2.2.2.1.later (alloc_below _ _)) 1048576 (by omega) (by omega)).mono ?_
  rintro e w1 ⟨rfl, hb1⟩
  have B1 := below_alloc hb1
  have hc2 := box_cell (i := 1) hb1 rfl
  clear hb1
  by_cases h1 : (1048576 : Int) < (asize ts : Int)
  · rw [if_pos h1]
    go_wp2
    go_ret
    exact Sz.less (by omega) B1
  · rw [if_neg h1]
    have h2 : ¬ (1048576 : Int) - (asize ts : Int) < 0 := by omega
    go_wp2_with fail
    refine (szStmtS_is F H.out.2.2.1 H.out.2.2.2.1 _ _ (1048576 - (asize ts : Int)) (H.out.2.2.2.2.2.later B1) (by omega) (by omega)).mono ?_
    rintro e w2 ⟨rfl, hb2⟩
    have B2 := B1.trans (hb2.mono B1.size)
    clear hb2 hc2
    by_cases h3 : (1048576 : Int) - (asize ts : Int) < (ssize F : Int)
    · rw [if_pos h3]
      go_wp2
      go_ret
      exact Sz.less (by omega) B2
    · rw [if_neg h3]
      have h4 : ¬ (1048576 : Int) - (asize ts : Int) - (ssize F : Int) < 0 := by omega
      go_wp2
      go_ret
      exact Sz.more (by omega) (by omega) B2
theorem heap_last (v : World) (o : Obj) : (v.alloc o).heap[v.heap.size]? = some o := by show (v.heap.push o)[v.heap.size]? = _; simp
theorem blk2 {w : World} {b : Nat} {x y : Value} {t : TypeId} (h : w.heap[b]? = some (.cells #[x, y] t (0, 0))) :
    (w.cell? ⟨b, 0, Option.none⟩ = some x ∧ w.cell? ⟨b, 1, Option.none⟩ = some y) ∧ w.frozen? ⟨b, 0, Option.none⟩ = false ∧ w.frozen? ⟨b, 1, Option.none⟩ = false := by
  simp [World.cell?, World.frozen?, h]
theorem there_keep {w : World} {b c : Nat} {o : Obj} (hne : b ≠ c) (h : w.heap[b]? = some o) (i : Nat) (v : Value) : (w.setCell ⟨c, i, Option.none⟩ v).heap[b]? = some o := by rw [Below.heap_setCell _ _ _ _ hne]; exact h
theorem blk2_set {w : World} {b : Nat} {x y : Value} {t : TypeId} (v : Value) (h : w.heap[b]? = some (.cells #[x, y] t (0, 0))) : (w.setCell ⟨b, 0, Option.none⟩ v).heap[b]? = some (.cells #[v, y] t (0, 0)) := by
  have hlt := (Array.getElem?_eq_some_iff.1 h).1
  have h' : w.heap[b] = .cells #[x, y] t (0, 0) := by simpa [Array.getElem?_eq_getElem hlt] using h
  show (w.heap.modify b _)[b]? = _
  rw [Array.getElem?_eq_getElem (by simpa using hlt), Array.getElem_modify_self, h']
  rfl
theorem set3 {w w1 : World} {N : Nat} (hb : Below w.heap.size w w1) (hN : w.heap.size = N) (p x y : Value) : Below w.heap.size w (((w1.setCell ⟨N + 2, 1, Option.none⟩ p).setCell ⟨N + 1, 0, Option.none⟩ x).setCell ⟨N + 1, 1, Option.none⟩ y) ∧
    Keeps (w.heap.size + 3) w1 (((w1.setCell ⟨N + 2, 1, Option.none⟩ p).setCell ⟨N + 1, 0, Option.none⟩ x).setCell ⟨N + 1, 1, Option.none⟩ y) ∧ w1.heap.size ≤ (((w1.setCell ⟨N + 2, 1, Option.none⟩ p).setCell ⟨N + 1, 0, Option.none⟩ x).setCell ⟨N + 1, 1, Option.none⟩ y).heap.size := by
  subst hN
  exact ⟨((hb.setCell (p := ⟨w.heap.size + 2, 1, Option.none⟩) (by simp) _).setCell (p := ⟨w.heap.size + 1, 0, Option.none⟩) (by simp) _).setCell (p := ⟨w.heap.size + 1, 1, Option.none⟩) (by simp) _,
    ((Keeps.set _ _ (by simp) _).trans (Keeps.set _ _ (by simp) _)).trans (Keeps.set _ _ (by simp) _), by simp⟩
set_option maxHeartbeats 1000000 in
theorem toProg_is (ts : List AR) (F : SF) (hn : ts.length ≤ 1048576) (hS : ssize F ≤ 1048576) (va vb : Value) (w : World) (ha : AV w 0 va ts) (hb : SV w 0 F vb) :
    Calls Tryz.prog 23 #[.agg #[va, vb]] w fun e w' => ∃ ua ub, e = .returned (.agg #[ua, ub]) ∧ AV w' 0 ua ts ∧ SV w' 0 F ub ∧ Below w.heap.size w w' := by
  have H := hid (And.intro ha hb)
  obtain ⟨a1, c1, rfl⟩ := ha.shape
  obtain ⟨a2, c2, rfl⟩ := hb.shape
  clear ha hb
  go_enter Tryz.func23, Tryz.ntmps23
  go_wp2_with fail
  have hb3 := ((alloc_below w (.cells #[.slice a1 ts.length c1, .slice a2 (slen F) c2] 53)).alloc (by simp) (.cells #[.slice Option.none 0 0, .slice Option.none 0 0] 27)).alloc (by simp; omega) (.cells #[.slice Option.none 0 0, .slice Option.none 0 0] 27)
  obtain ⟨q0, q1, q2⟩ := heap3 w (.cells #[.slice a1 ts.length c1, .slice a2 (slen F) c2] 53) (.cells #[.slice Option.none 0 0, .slice Option.none 0 0] 27) (.cells #[.slice Option.none 0 0, .slice Option.none 0 0] 27)
  refine (toArrS_is ts hn _ _ (H.out.1.later hb3)).mono ?_
  rintro e w1 ⟨ua, rfl, hua, hb1⟩
  obtain ⟨x1, y1, rfl⟩ := hua.shape
  have r0 := (hb1.block _ (by simp only [World.size_alloc]; omega)).trans q0
  have r1 := (hb1.block _ (by simp)).trans q1
  have r2 := (hb1.block _ (by simp)).trans q2
  have B1 := hb3.trans (hb1.mono hb3.size)
  have hs1 := hb1.size
  simp only [World.size_alloc] at hs1 hua
  have t1 := blk2_set (.slice x1 ts.length y1) r2
  have t0 := there_keep (c := w.heap.size + 2) (by omega) r0 0 (.slice x1 ts.length y1)
  have t3 := there_keep (c := w.heap.size + 2) (by omega) r1 0 (.slice x1 ts.length y1)
  have B1' := B1.setCell (p := ⟨w.heap.size + 2, 0, Option.none⟩) (by simp) (.slice x1 ts.length y1)
  have hua' : AV (w1.setCell ⟨w.heap.size + 2, 0, Option.none⟩ (.slice x1 ts.length y1)) (w.heap.size + 3) (.slice x1 ts.length y1) ts := hua.same (Nat.le_refl _) (Keeps.set _ _ (by simp) _) (by simp)
  obtain ⟨⟨_, _⟩, f0, f1⟩ := blk2 r2
  obtain ⟨⟨_, d1⟩, _, _⟩ := blk2 t0
  obtain ⟨⟨g0, _⟩, _, _⟩ := blk2 r2
  have HA := hid hua'
  have HB := hid B1'
  have T := hid (And.intro t1 (And.intro t3 t0))
  clear hb1 hb3 hua hua' B1 B1' q0 q1 q2 r0 r1 r2 t0 t1 t3
  go_wp2_with fail
  refine (toStmtS_is F hS _ _ (H.out.2.later HB.out)).mono ?_
  rintro e w2 ⟨ub, rfl, hub, hb2⟩
  obtain ⟨x2, y2, rfl⟩ := hub.shape
  have s1 := (hb2.block _ (by simp; omega)).trans T.out.1
  have s3 := (hb2.block _ (by simp; omega)).trans T.out.2.1
  have B2 := HB.out.trans (hb2.mono HB.out.size)
  have hs2 := hb2.size
  simp only [World.size_setCell] at hs2 hub
  obtain ⟨⟨c0, c1⟩, f0, f1⟩ := blk2 s1
  obtain ⟨⟨e0, e1⟩, k0, k1⟩ := blk2 s3
  have A2 := hid (HA.out.later hb2)
  have B2' := hid B2
  have S2 := hid hub
  clear hb2 s1 s3 hub HA HB T B2
  go_wp2
  obtain ⟨hB, hK, hZ⟩ := set3 B2'.out rfl (.slice x2 (slen F) y2) (.slice x1 ts.length y1) (.slice x2 (slen F) y2)
  refine bodyPost_ret (v := .agg #[.slice x1 ts.length y1, .slice x2 (slen F) y2]) (by simp [results, Tryz.results23, go_sem, e0, e1]) rfl ⟨_, _, rfl, A2.out.same (Nat.zero_le _) (fun a v hl hc => hK a v hl hc) hZ, S2.out.same (Nat.zero_le _) (fun a v hl hc => hK a v (by omega) hc), hB⟩
theorem arrAt_cells {w : World} {v : Value} {ts : List AR} (h : AV w 0 v ts) (hne : ts ≠ []) : ∃ g off cap, v = .slice (some ⟨g, off, Option.none⟩) ts.length cap ∧ ∀ i t, ts[i]? = some t → w.cell? ⟨g, off + i * 2, Option.none⟩ = some (.string t.s) ∧ w.cell? ⟨g, off + i * 2 + 1, Option.none⟩ = some (.int .i64 t.n) := by
  obtain ⟨ao, cap, rfl, h⟩ := h
  rcases h with h | ⟨g, off, rfl, _, _, h3⟩
  · exact absurd h hne
  · exact ⟨g, off, cap, rfl, h3⟩
set_option maxHeartbeats 1000000 in
theorem eqProg_same (ts : List AR) (F : SF) (hn : ts.length ≤ 1048576) (hS : ssize F ≤ 1048576) (va vb ua ub : Value) (w : World) (ha : AV w 0 va ts) (hb : SV w 0 F vb) (ga : AV w 0 ua ts) (gb : SV w 0 F ub) :
    Calls Tryz.prog 25 #[.agg #[va, vb], .agg #[ua, ub]] w fun e w' => e = .returned (.bool true) ∧ Below w.heap.size w w' := by
  have H := hid (And.intro ha (And.intro hb (And.intro ga gb)))
  obtain ⟨a1, c1, rfl⟩ := ha.shape
  obtain ⟨a2, c2, rfl⟩ := hb.shape
  obtain ⟨a3, c3, rfl⟩ := ga.shape
  obtain ⟨a4, c4, rfl⟩ := gb.shape
  clear ha hb ga gb
  have hb2 : Below w.heap.size w ((w.alloc (.cells #[.slice a1 ts.length c1, .slice a2 (slen F) c2] 27)).alloc (.cells #[.slice a3 ts.length c3, .slice a4 (slen F) c4] 27)) := (alloc_below w _).alloc (by simp) _
  have p0 : ((w.alloc (.cells #[.slice a1 ts.length c1, .slice a2 (slen F) c2] 27)).alloc (.cells #[.slice a3 ts.length c3, .slice a4 (slen F) c4] 27)).heap[w.heap.size]? = some (.cells #[.slice a1 ts.length c1, .slice a2 (slen F) c2] 27 (0, 0)) := by
    rw [Below.heap_alloc _ _ _ (by simp)]; show (w.heap.push _)[w.heap.size]? = _; simp
  have p1 : ((w.alloc (.cells #[.slice a1 ts.length c1, .slice a2 (slen F) c2] 27)).alloc (.cells #[.slice a3 ts.length c3, .slice a4 (slen F) c4] 27)).heap[w.heap.size + 1]? = some (.cells #[.slice a3 ts.length c3, .slice a4 (slen F) c4] 27 (0, 0)) := by
    exact (congrArg (fun n => ((w.alloc (.cells #[.slice a1 ts.length c1, .slice a2 (slen F) c2] 27)).alloc (.cells #[.slice a3 ts.length c3, .slice a4 (slen F) c4] 27)).heap[n]?) (show w.heap.size + 1 = (w.alloc (.cells #[.slice a1 ts.length c1, .slice a2 (slen F) c2] 27)).heap.size by simp)).trans (heap_last _ _)
  have P := hid (And.intro p0 (And.intro p1 hb2))
  clear p0 p1 hb2
  go_enter Tryz.func25, Tryz.ntmps25
  go_wp2_with fail
  refine (eqArrS_same ts (by omega) _ _ _ (H.out.1.later P.out.2.2) (H.out.2.2.1.later P.out.2.2)).mono ?_
  rintro e w1 ⟨rfl, hb1⟩
  have B1 := P.out.2.2.trans (hb1.mono P.out.2.2.size)
  have c1' := (blk2 ((hb1.block _ (by simp only [World.size_alloc]; omega)).trans P.out.1)).1.2
  have c2' := (blk2 ((hb1.block _ (by simp only [World.size_alloc]; omega)).trans P.out.2.1)).1.2
  clear hb1 P
  go_wp2_with fail
  refine (eqStmtS_is F hS w1 _ _ (H.out.2.1.later B1) (H.out.2.2.2.later B1)).mono ?_
  rintro e w2 ⟨rfl, hb2⟩
  have B2 := B1.trans (hb2.mono B1.size)
  clear hb2 c1' c2'
  go_wp2
  go_ret
  exact ⟨rfl, B2⟩
def arrGo : List AR → Nat → ByteArray → Int
  | [], _, _ => -1
  | t :: ts, k, s => if t.s = s then k else arrGo ts (k + 1) s
set_option maxHeartbeats 1000000 in
theorem spec_ArrAt (ts : List AR) (hn : ts.length ≤ 1048576) (s : ByteArray) (va vb : Value) (hvb : vb.oneCell' = true) (w : World) (ha : AV w 0 va ts) :
    Calls Tryz.prog 109 #[.agg #[va, vb], .string s] w fun e w' => e = .returned (.int .i64 (arrGo ts 0 s)) ∧ Below w.heap.size w w' := by
  obtain ⟨ao, cap, rfl, hr⟩ := ha
  have Hr := hid hr
  clear hr
  have hc0 : (w.alloc (.cells #[.slice ao ts.length cap, vb] 27)).cell? ⟨w.heap.size, 0, Option.none⟩ = some (.slice ao ts.length cap) := box_cell (Below.refl _ _) rfl
  have B := hid (alloc_below w (.cells #[.slice ao ts.length cap, vb] 27))
  go_enter Tryz.func109, Tryz.ntmps109
  go_wp2
  go_loopw [5] (fun i wr => ∃ k : Nat, k ≤ ts.length ∧ i = .int .i64 k ∧ Hid (arrGo ts 0 s = arrGo (ts.drop k) k s) ∧ Hid (wr = w.alloc (.cells #[.slice ao ts.length cap, vb] 27))) (fun i _ => ts.length - (RowKit.intOf i).toNat)
  case atStart => exact ⟨0, by omega, rfl, (by show arrGo ts 0 s = arrGo (ts.drop 0) 0 s; rw [List.drop_zero]), rfl⟩
  case round =>
    obtain ⟨k, hk, rfl, hg, hw⟩ := hrel
    obtain rfl := hw.out
    by_cases hlt : k < ts.length
    · have hltI : (k : Int) < (ts.length : Int) := by omega
      obtain ⟨t, ht⟩ : ∃ t, ts[k]? = some t := ⟨ts[k], List.getElem?_eq_getElem hlt⟩
      rcases Hr.out with hr | ⟨g, off, rfl, _, gl, hc⟩
      · subst hr; simp at hlt
      have A0 := (B.out.cell (p := ⟨g, off + k * 2, Option.none⟩) gl).trans (hc k t ht).1
      have hd : Hid (ts.drop k = t :: ts.drop (k + 1)) := by
        show ts.drop k = t :: ts.drop (k + 1)
        rw [List.drop_eq_getElem_cons hlt]; congr 1; rw [List.getElem?_eq_getElem hlt] at ht; injection ht
      clear hc ht Hr
      by_cases he : t.s = s
      · have he2 : Hid (arrGo ts 0 s = (k : Int)) := by show arrGo ts 0 s = (k : Int); rw [hg.out, hd.out, arrGo, if_pos he]
        subst he
        go_wp2
        go_ret
        exact retI he2.out.symm B.out
      · have he2 : Hid (arrGo ts 0 s = arrGo (ts.drop (k + 1)) (k + 1) s) := by show arrGo ts 0 s = _; rw [hg.out, hd.out, arrGo, if_neg he]
        have hne := str_ne he
        go_wp2
        go_roundw
        case rel => exact ⟨k + 1, by omega, by go_num, he2.out, trivial⟩
        case measure => simp [RowKit.intOf]; omega
    · have he2 : Hid (arrGo ts 0 s = -1) := by show arrGo ts 0 s = -1; rw [hg.out, List.drop_of_length_le (by omega)]; rfl
      go_wp2
      go_ret
      exact retI he2.out.symm B.out
end Go.Proofs.YtfoghiminlbdaaaGreat
