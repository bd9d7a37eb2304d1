/-
  Texts in one: StoNewS, RunTopS.
-/
import Derived.Test.YtfoghiminlbdaaaGreatZp
import Derived.Test.YtfoghiminlbdaaaGreatP04ofRun
import Derived.Test.YtfoghiminlbdaaaGreatP11ofRun
import Derived.Test.YtfoghiminlbdaaaGreatRunBody
import Derived.Test.YtfoghiminlbdaaaGreatRunTopI
import Derived.Test.YtfoghiminlbdaaaGreatProgSpec
namespace Go.Proofs.YtfoghiminlbdaaaGreat
open Go.RowKit Go.Lib
set_option linter.unusedSimpArgs false
set_option linter.unusedVariables false
theorem wp_make_full {P : Program} (w : World) {o : Oper} {a : Act} {K : Act → World → Prop} {Q : Exit → Act → World → Prop} (l c : Operand) (t : TypeId) (hop : o.op = Op.makeSlice t l c)
    (base : Nat) (e : TypeId) (i : TypeInfo) (z : Value) (size : Nat) (h1 : P.underlying t = some (.slice e)) (h2 : P.info? e = some i) (h3 : i.zero = some z) (h4 : i.size = size)
    (kl kc : IntKind) (n : Nat) (hl : a.eval l = .int kl (n : Int)) (hc : a.eval c = .int kc (n : Int)) (b2 : i.bytes * n ≤ 281474976710656) (b3 : n ≤ maxLen) (b4 : base ≤ w.heap.size)
    (hK : ∀ w', w'.ownsRow base e size (.slice (some ⟨w.heap.size, 0, none⟩) n n) n (madeCells z.cells (n * size)).toList → w.grownBy w' none → K (a.put o.dst (.slice (some ⟨w.heap.size, 0, none⟩) n n)) w') : o.wp P a w K Q := by
  obtain ⟨w', hrun, r1, r2⟩ := run_make_full (P := P) w base t e i z size h1 h2 h3 h4 kl kc n b2 b3 b4
  unfold Oper.wp
  simp [execOp, hop, hl, hc, hrun, Result.andThen]
  exact hK w' r1 r2
theorem nz_in {n : Int} {m : Nat} (h : n = (m : Int)) (hm : m ≤ 16) : nz n = List.replicate m 0 := by subst h; rw [nz, if_neg (by omega)]; rfl
theorem nz_out {n : Int} (h : ¬ (0 ≤ n ∧ n ≤ 16)) : nz n = List.replicate 0 0 := by rw [nz, if_pos (by omega)]; rfl
set_option maxHeartbeats 2000000 in
set_option maxRecDepth 100000 in
theorem spec_StoNew (ts : List AR) (F : SF) (n : Nat) (hn : n ≤ 10000000) (hl : ts.length ≤ 1048576) (va vb : Value) (w : World) (ha : AV w 0 va ts) (hb : SV w 0 F vb)
    (hV : ∀ w v, SV w 0 F v → Calls Tryz.prog 43 #[v] w fun e w' => ∃ a c, e = .returned (.slice a n c) ∧ Below w.heap.size w w') :
    Calls Tryz.prog 21 #[.agg #[va, vb]] w (NewSto w ts n) := by
  have HA := hid (And.intro ha hb)
  have HV := hid hV
  obtain ⟨a1, c1, rfl⟩ := ha.shape
  obtain ⟨a2, c2, rfl⟩ := hb.shape
  obtain ⟨i0, hi, hz0, hz1, hz2⟩ := info_parts infoI8
  obtain ⟨j0, hj, hy0, hy1, hy2⟩ := info_parts infoIS8
  have HI := hid (And.intro hi (And.intro hz0 (And.intro hz1 hz2)))
  have HJ := hid (And.intro hj (And.intro hy0 (And.intro hy1 hy2)))
  clear ha hb hV hi hz0 hz1 hz2 hj hy0 hy1 hy2
  have b2 : Hid (Below w.heap.size w ((w.alloc (.cells #[.slice a1 ts.length c1, .slice a2 (slen F) c2] 27)).alloc (.cells #[.slice Option.none 0 0, .slice Option.none 0 0, .slice Option.none 0 0, .int .i64 0] 33))) := (alloc_below w _).alloc (by simp) _
  have p0 : Hid (((w.alloc (.cells #[.slice a1 ts.length c1, .slice a2 (slen F) c2] 27)).alloc (.cells #[.slice Option.none 0 0, .slice Option.none 0 0, .slice Option.none 0 0, .int .i64 0] 33)).heap[w.heap.size]? = some (.cells #[.slice a1 ts.length c1, .slice a2 (slen F) c2] 27 (0, 0))) := by
    show _ = _
    rw [Below.heap_alloc _ _ _ (by simp)]; exact blkLast _ _
  have p1 : Hid (((w.alloc (.cells #[.slice a1 ts.length c1, .slice a2 (slen F) c2] 27)).alloc (.cells #[.slice Option.none 0 0, .slice Option.none 0 0, .slice Option.none 0 0, .int .i64 0] 33)).heap[w.heap.size + 1]? = some (.cells #[.slice Option.none 0 0, .slice Option.none 0 0, .slice Option.none 0 0, .int .i64 0] 33 (0, 0))) :=
    (congrArg (fun n => ((w.alloc (.cells #[.slice a1 ts.length c1, .slice a2 (slen F) c2] 27)).alloc (.cells #[.slice Option.none 0 0, .slice Option.none 0 0, .slice Option.none 0 0, .int .i64 0] 33)).heap[n]?) (show w.heap.size + 1 = (w.alloc (.cells #[.slice a1 ts.length c1, .slice a2 (slen F) c2] 27)).heap.size by simp)).trans (blkLast _ _)
  go_enter Tryz.func21, Tryz.ntmps21
  go_wp2_with fail
  refine (HV.out _ _ (HA.out.2.later b2.out)).mono ?_
  rintro e w1 ⟨av, cv, rfl, hb1⟩
  have B1 := hid (b2.out.trans (hb1.mono b2.out.size))
  have q0 := hid ((hb1.block _ (lt_heap p0.out)).trans p0.out)
  have q1 := hid ((hb1.block _ (lt_heap p1.out)).trans p1.out)
  clear hb1 b2 p0 p1
  go_wp2_with (refine wpList_make_full _ rfl _ _ 31 rfl w1.heap.size 3 i0 _ 1 Tryz.underlying31 HI.out.1 HI.out.2.1 HI.out.2.2.1 .i64 .i64 _ _ n rfl rfl rfl rfl ?c1 ?c2 ?c3 ?_)
  case c1 => have := HI.out.2.2.2; first | omega | (rw [this]; omega)
  case c2 => unfold maxLen; omega
  try (case c3 => exact Nat.le_refl _)
  intro w2 hown hgrow
  have HF := hid (fresh_made hown hgrow)
  have r0 := hid ((HF.out.2.block _ (lt_heap q0.out)).trans q0.out)
  have r1 := hid ((HF.out.2.block _ (lt_heap q1.out)).trans q1.out)
  clear hown hgrow q0 q1
  go_wp2_with (refine store_abs rfl 33 _ _ rfl w2.heap.size 0 #[.slice Option.none 0 0, .slice (some ⟨w1.heap.size, 0, Option.none⟩) n n, .slice Option.none 0 0, .int .i64 0] rfl rfl ?ht0 sizeSto ?ho0 ?_; exact (thSto4 _ _ _ _ _ _); exact (one4 rfl rfl rfl rfl); intro W hW; have HW := hid (newSto4 hW); have y0 : W.cell? ⟨w.heap.size, 0, Option.none⟩ = some (.slice a1 ts.length c1) := (blk2 ((HW.out.2.block _ (lt_heap r0.out)).trans r0.out)).1.1; clear hW)
  obtain ⟨N, hN⟩ : ∃ N, N = w2.heap.size := ⟨_, rfl⟩
  have S0 := hid (StB.start (w0 := w) (B := w.heap.size) HF.out B1.out B1.out.size HW.out.2 HW.out.1 (Nat.le_trans B1.out.size HF.out.2.size))
  have z0 := hid ((HW.out.2.block _ (lt_heap r0.out)).trans r0.out)
  have z1 := hid ((HW.out.2.block _ (lt_heap r1.out)).trans r1.out)
  rw [← hN] at S0
  rw [← hN]
  obtain ⟨V, hVv⟩ : ∃ V : Value, V = .slice (some ⟨w1.heap.size, 0, Option.none⟩) n n := ⟨_, rfl⟩
  rw [← hVv] at S0
  rw [← hVv]
  have V1 : V.oneCell' = true := by rw [hVv]; rfl
  have Nlt : w.heap.size + 1 < N := by have := lt_heap r1.out; omega
  clear HW r0 r1 hN hVv HF y0
  go_loopw [4] (fun i wr => ∃ k : Nat, k ≤ ts.length ∧ i = .int .i64 k ∧ Hid (∃ ua rs, StB w wr w.heap.size N ua rs (V, List.replicate n 0) ∧ rs.map (·.2) = zrows (ts.take k) ∧ rs.length = k ∧ wr.heap[w.heap.size + 1]? = some (.cells #[.slice Option.none 0 0, .slice Option.none 0 0, .slice Option.none 0 0, .int .i64 0] 33 (0, 0)) ∧ wr.heap[w.heap.size]? = some (.cells #[.slice a1 ts.length c1, .slice a2 (slen F) c2] 27 (0, 0)) ∧ w.heap.size + 1 < N)) (fun i _ => ts.length - (RowKit.intOf i).toNat)
  case atStart => exact ⟨0, by omega, rfl, ⟨_, [], S0.out, by simp [zrows], rfl, z1.out, z0.out, Nlt⟩⟩
  case round =>
    obtain ⟨k, hk, rfl, hin⟩ := hrel
    by_cases hlt : k < ts.length
    · have hltI : (k : Int) < (ts.length : Int) := by omega
      obtain ⟨t, ht⟩ : ∃ t, ts[k]? = some t := ⟨ts[k], List.getElem?_eq_getElem hlt⟩
      obtain ⟨ua, rs, hs, hz, hlen, hR, hP, hlt2⟩ := hin.out
      obtain ⟨g1, o1, rfl, hc0, hc1⟩ : ∃ g off, a1 = some ⟨g, off, Option.none⟩ ∧ wr.cell? ⟨g, off + k * 2, Option.none⟩ = some (.string t.s) ∧ wr.cell? ⟨g, off + k * 2 + 1, Option.none⟩ = some (.int .i64 t.n) := by
        obtain ⟨g, off, cc, e, hcc⟩ := arrAt_cells (HA.out.1.later hs.low) (fun e => by subst e; simp at ht)
        injection e with e
        exact ⟨g, off, e, hcc k t ht⟩
      obtain ⟨⟨x0, _⟩, _⟩ := blk2 hP
      have HS := hid hs
      have HR := hid (And.intro hR hP)
      have HZ0 : Hid (rs.map (·.2) ++ [nz t.n] = zrows (ts.take (k + 1))) := show rs.map (·.2) ++ [nz t.n] = zrows (ts.take (k + 1)) by rw [zrows_take ht, hz]
      subst hlen
      clear hs hR hP hz hin ht hc0
      by_cases hin : 0 ≤ t.n ∧ t.n ≤ 16
      · obtain ⟨m, hm⟩ : ∃ m : Nat, t.n = (m : Int) := ⟨t.n.toNat, by omega⟩
        have hm16 : m ≤ 16 := by omega
        have HZ : Hid (rs.map (·.2) ++ [List.replicate m 0] = zrows (ts.take (rs.length + 1))) := show rs.map (·.2) ++ [List.replicate m 0] = _ by rw [← nz_in hm hm16]; exact HZ0.out
        have hb1 : (decide (0 ≤ (m : Int)) && decide ((m : Int) ≤ 16)) = true := by rw [← hm]; simp [hin]
        rw [hm] at hc1
        clear HZ0 hin hm
        go_wp2_with fail
        refine (l1In_is (m : Int) 0 16 _).mono ?_
        rintro e w9 ⟨rfl, rfl⟩
        rw [hb1]
        clear hc1 hb1
        go_wp2_with fail
        refine region_drew (by kernel_rfl) (fun wd hwd => ?_)
        have bd : Below wr.heap.size wr wd := by rw [hwd]; exact (Below.refl _ wr).drew
        clear hwd
        have HS2 := hid (HS.out.later bd)
        have HR2 := hid (And.intro ((bd.block _ (lt_heap HR.out.1)).trans HR.out.1) ((bd.block _ (lt_heap HR.out.2)).trans HR.out.2))
        obtain ⟨⟨s0, _, _, _⟩, _⟩ := blk4 HS2.out.blk
        clear HS HR bd x0
        refine wpAny_take (i := 0) (v := .pointer (some ⟨N, 0, Option.none⟩)) rfl (by kernel_rfl) (by kernel_rfl) (by kernel_rfl) (fun _ _ _ h => h) (Or.inl ⟨by rfl, ?b0m⟩) ?_
        case b0m => intro w; go_simp
        simp only [Act.put, zp]
        refine wpAny_take (i := 2) (v := .int .i64 ((m : Nat) : Int)) rfl (by kernel_rfl) (by kernel_rfl) (by kernel_rfl) (fun _ _ _ h => h) (Or.inl ⟨by rfl, ?b2m⟩) ?_
        case b2m => intro w; go_simp
        simp only [Act.put, zp]
        refine wpAny_till (i := 1) (v := ua) (fun w' => w'.cell? ⟨N, 0, Option.none⟩ = some ua) rfl (by kernel_rfl) (by kernel_rfl) (by kernel_rfl) (fun _ _ _ h => h) (Or.inl ⟨by rfl, ?b1m⟩) s0 (fun hHeld => ?_)
        case b1m => intro w hSw; go_simp
        simp only [Act.put, zp]
        refine wpAnyD_ready (rs := [3]) (by kernel_rfl) (by simp) ?_
        refine AllReadyD.cons rfl (fun K hK => ?_) AllReadyD.nil
        rw [if_pos (by rfl)]
        simp only [zq]
        refine wp_make_full wd _ _ 31 rfl wd.heap.size 3 i0 _ 1 Tryz.underlying31 HI.out.1 HI.out.2.1 HI.out.2.2.1 .i64 .i64 m (by rfl) (by rfl) (by have := HI.out.2.2.2; rw [this]; omega) (by unfold maxLen; omega) (Nat.le_refl _) ?_
        intro w3 hown3 hgrow3
        have hf3 := fresh_made (n := m) (by simpa [Value.cells] using hown3) hgrow3
        have HF3 := hid hf3
        have s3 := keeps hf3.2 s0
        have HS3 := hid (HS2.out.later hf3.2)
        have HR3 := hid (And.intro ((hf3.2.block _ (lt_heap HR2.out.1)).trans HR2.out.1) ((hf3.2.block _ (lt_heap HR2.out.2)).trans HR2.out.2))
        clear hf3 HR2 hown3 hgrow3
        refine hK.out _ _ (fun _ => s3) ?_
        try simp only [Act.put, zp]
        refine wpAnyD_ready (rs := [4]) (by kernel_rfl) (by simp) ?_
        refine AllReadyD.cons rfl (fun K hK => ?_) AllReadyD.nil
        rw [if_pos (by rfl)]
        simp only [zq]
        go_wp2_with fail
        refine hK.out _ _ (fun _ => keeps (alloc_below _ _) s3) ?_
        try simp only [Act.put, zp]
        refine wpAnyD_ready (rs := [5]) (by kernel_rfl) (by simp) ?_
        refine AllReadyD.cons rfl (fun K hK => ?_) AllReadyD.nil
        rw [if_pos (by rfl)]
        simp only [zq]
        refine wp_append_lies _ _ _ 30 (by rfl) w.heap.size 31 j0 _ 1 24 Tryz.underlying30 HJ.out.1 HJ.out.2.1 HJ.out.2.2.1 HJ.out.2.2.2 rfl (by decide) ua rs.length (rs.map (·.1)) (by rfl) (ownB HS3.out.out (alloc_below _ _)) ⟨w3.heap.size, 0, Option.none⟩ 1 1 [.slice (some ⟨wd.heap.size, 0, Option.none⟩) m m] (by rfl) (by rfl) ?k1m ?k2m (by decide) ?k3m ?k4m ?k5m (w3.heap.size + 1) (by simp) ?_
        case k1m => exact new1 _ _ _
        case k2m => intro u hu; simp at hu; subst hu; rfl
        case k3m => unfold maxLen; omega
        case k4m => omega
        case k5m => have := HS3.out.ge.2; simp; omega
        intro g c6 w6 hown6 hgrow6 hat6 hlt6
        have N6 := hid (HS2.out.next HF3.out rfl hown6 hgrow6)
        have nR : Hid (w6.heap[w.heap.size + 1]? = some (.cells #[.slice Option.none 0 0, .slice Option.none 0 0, .slice Option.none 0 0, .int .i64 0] 33 (0, 0))) := by
            have h0 := (Below.heap_alloc w3 (.cells #[.slice (some ⟨wd.heap.size, 0, Option.none⟩) m m] 31) _ (lt_heap HR3.out.1)).trans HR3.out.1
            exact (hgrow6.block _ (by have := lt_heap h0; exact this) (fun e => own_ne (ownB HS3.out.out (alloc_below w3 (.cells #[.slice (some ⟨wd.heap.size, 0, Option.none⟩) m m] 31))) h0 (by decide) e.symm)).trans h0
        have nP : Hid (w6.heap[w.heap.size]? = some (.cells #[.slice (some ⟨g1, o1, Option.none⟩) ts.length c1, .slice a2 (slen F) c2] 27 (0, 0))) := by
            have h0 := (Below.heap_alloc w3 (.cells #[.slice (some ⟨wd.heap.size, 0, Option.none⟩) m m] 31) _ (lt_heap HR3.out.2)).trans HR3.out.2
            exact (hgrow6.block _ (by have := lt_heap h0; exact this) (fun e => own_ne (ownB HS3.out.out (alloc_below w3 (.cells #[.slice (some ⟨wd.heap.size, 0, Option.none⟩) m m] 31))) h0 (by decide) e.symm)).trans h0
        have nN : Hid (w6.heap[N]? = some (.cells #[ua, V, .slice Option.none 0 0, .int .i64 0] 33 (0, 0))) := by
            have h0 := (Below.heap_alloc w3 (.cells #[.slice (some ⟨wd.heap.size, 0, Option.none⟩) m m] 31) _ (lt_heap HS3.out.blk)).trans HS3.out.blk
            exact (hgrow6.block _ (by have := lt_heap h0; exact this) (fun e => own_ne (ownB HS3.out.out (alloc_below w3 (.cells #[.slice (some ⟨wd.heap.size, 0, Option.none⟩) m m] 31))) h0 (by decide) e.symm)).trans h0
        obtain ⟨⟨d0, _, _, _⟩, f0, _⟩ := blk4 nN.out
        clear hown6 hgrow6 hat6 hlt6 HS2 HS3 HR3 HF3
        refine hK.out _ _ (fun e => absurd e (waitsN (by kernel_rfl))) ?_
        try simp only [Act.put, zp]
        refine wpAnyD_ready (rs := [6]) (by kernel_rfl) (by simp) ?_
        refine AllReadyD.cons rfl (fun K hK => ?_) AllReadyD.nil
        rw [if_pos (by rfl)]
        simp only [zq]
        go_wp2_with fail
        refine hK.out _ _ (fun e => absurd e (waitsN (by kernel_rfl))) ?_
        try simp only [Act.put, zp]
        refine wpAnyD_ready (rs := [7]) (by kernel_rfl) (by simp) ?_
        refine AllReadyD.cons rfl (fun K hK => ?_) AllReadyD.nil
        rw [if_pos (by rfl)]
        simp only [zq]
        go_wp2_with fail
        refine hK.out _ _ (fun e => absurd e (waitsN (by kernel_rfl))) ?_
        try simp only [Act.put, zp]
        refine wpAnyD_done (by kernel_rfl) ?_ _
        have M1 : Hid ((w6.setCell ⟨N, 0, Option.none⟩ (.slice (some ⟨g, 0, Option.none⟩) (rs.length + 1) c6)).heap[w.heap.size + 1]? = some (.cells #[.slice Option.none 0 0, .slice Option.none 0 0, .slice Option.none 0 0, .int .i64 0] 33 (0, 0))) := (Below.heap_setCell _ _ _ _ (by show w.heap.size + 1 ≠ N; omega)).trans nR.out
        have M2 : Hid ((w6.setCell ⟨N, 0, Option.none⟩ (.slice (some ⟨g, 0, Option.none⟩) (rs.length + 1) c6)).heap[w.heap.size]? = some (.cells #[.slice (some ⟨g1, o1, Option.none⟩) ts.length c1, .slice a2 (slen F) c2] 27 (0, 0))) := (Below.heap_setCell _ _ _ _ (by show w.heap.size ≠ N; omega)).trans nP.out
        clear nR nP nN d0 f0
        go_wp2
        go_roundw
        case rel => exact ⟨rs.length + 1, by omega, by go_num, ⟨_, _, N6.out, by rw [List.map_append]; exact HZ.out, by simp, M1.out, M2.out, hlt2⟩⟩
        case measure => simp [RowKit.intOf]; omega
      · have HZ : Hid (rs.map (·.2) ++ [List.replicate 0 0] = zrows (ts.take (rs.length + 1))) := show rs.map (·.2) ++ [List.replicate 0 0] = _ by rw [← nz_out hin]; exact HZ0.out
        have hb1 : (decide (0 ≤ t.n) && decide (t.n ≤ 16)) = false := by
          rcases Int.lt_or_le t.n 0 with h | h
          · rw [decide_eq_false (by omega)]; rfl
          · rw [decide_eq_false (p := t.n ≤ 16) (by omega)]; simp
        clear HZ0 hin
        go_wp2_with fail
        refine (l1In_is t.n 0 16 _).mono ?_
        rintro e w9 ⟨rfl, rfl⟩
        rw [hb1]
        clear hc1 hb1
        go_wp2_with fail
        refine region_drew (by kernel_rfl) (fun wd hwd => ?_)
        have bd : Below wr.heap.size wr wd := by rw [hwd]; exact (Below.refl _ wr).drew
        clear hwd
        have HS2 := hid (HS.out.later bd)
        have HR2 := hid (And.intro ((bd.block _ (lt_heap HR.out.1)).trans HR.out.1) ((bd.block _ (lt_heap HR.out.2)).trans HR.out.2))
        obtain ⟨⟨s0, _, _, _⟩, _⟩ := blk4 HS2.out.blk
        clear HS HR bd x0
        refine wpAny_take (i := 0) (v := .pointer (some ⟨N, 0, Option.none⟩)) rfl (by kernel_rfl) (by kernel_rfl) (by kernel_rfl) (fun _ _ _ h => h) (Or.inl ⟨by rfl, ?b0z⟩) ?_
        case b0z => intro w; go_simp
        simp only [Act.put, zp]
        refine wpAny_take (i := 2) (v := .int .i64 (0 : Int)) rfl (by kernel_rfl) (by kernel_rfl) (by kernel_rfl) (fun _ _ _ h => h) (Or.inl ⟨by rfl, ?b2z⟩) ?_
        case b2z => intro w; go_simp
        simp only [Act.put, zp]
        refine wpAny_till (i := 1) (v := ua) (fun w' => w'.cell? ⟨N, 0, Option.none⟩ = some ua) rfl (by kernel_rfl) (by kernel_rfl) (by kernel_rfl) (fun _ _ _ h => h) (Or.inl ⟨by rfl, ?b1z⟩) s0 (fun hHeld => ?_)
        case b1z => intro w hSw; go_simp
        simp only [Act.put, zp]
        refine wpAnyD_ready (rs := [3]) (by kernel_rfl) (by simp) ?_
        refine AllReadyD.cons rfl (fun K hK => ?_) AllReadyD.nil
        rw [if_pos (by rfl)]
        simp only [zq]
        refine wp_make_full wd _ _ 31 rfl wd.heap.size 3 i0 _ 1 Tryz.underlying31 HI.out.1 HI.out.2.1 HI.out.2.2.1 .i64 .i64 0 (by rfl) (by rfl) (by have := HI.out.2.2.2; rw [this]; omega) (by unfold maxLen; omega) (Nat.le_refl _) ?_
        intro w3 hown3 hgrow3
        have hf3 := fresh_made (n := 0) (by simpa [Value.cells] using hown3) hgrow3
        have HF3 := hid hf3
        have s3 := keeps hf3.2 s0
        have HS3 := hid (HS2.out.later hf3.2)
        have HR3 := hid (And.intro ((hf3.2.block _ (lt_heap HR2.out.1)).trans HR2.out.1) ((hf3.2.block _ (lt_heap HR2.out.2)).trans HR2.out.2))
        clear hf3 HR2 hown3 hgrow3
        refine hK.out _ _ (fun _ => s3) ?_
        try simp only [Act.put, zp]
        refine wpAnyD_ready (rs := [4]) (by kernel_rfl) (by simp) ?_
        refine AllReadyD.cons rfl (fun K hK => ?_) AllReadyD.nil
        rw [if_pos (by rfl)]
        simp only [zq]
        go_wp2_with fail
        refine hK.out _ _ (fun _ => keeps (alloc_below _ _) s3) ?_
        try simp only [Act.put, zp]
        refine wpAnyD_ready (rs := [5]) (by kernel_rfl) (by simp) ?_
        refine AllReadyD.cons rfl (fun K hK => ?_) AllReadyD.nil
        rw [if_pos (by rfl)]
        simp only [zq]
        refine wp_append_lies _ _ _ 30 (by rfl) w.heap.size 31 j0 _ 1 24 Tryz.underlying30 HJ.out.1 HJ.out.2.1 HJ.out.2.2.1 HJ.out.2.2.2 rfl (by decide) ua rs.length (rs.map (·.1)) (by rfl) (ownB HS3.out.out (alloc_below _ _)) ⟨w3.heap.size, 0, Option.none⟩ 1 1 [.slice (some ⟨wd.heap.size, 0, Option.none⟩) 0 0] (by rfl) (by rfl) ?k1z ?k2z (by decide) ?k3z ?k4z ?k5z (w3.heap.size + 1) (by simp) ?_
        case k1z => exact new1 _ _ _
        case k2z => intro u hu; simp at hu; subst hu; rfl
        case k3z => unfold maxLen; omega
        case k4z => omega
        case k5z => have := HS3.out.ge.2; simp; omega
        intro g c6 w6 hown6 hgrow6 hat6 hlt6
        have N6 := hid (HS2.out.next HF3.out rfl hown6 hgrow6)
        have nR : Hid (w6.heap[w.heap.size + 1]? = some (.cells #[.slice Option.none 0 0, .slice Option.none 0 0, .slice Option.none 0 0, .int .i64 0] 33 (0, 0))) := by
            have h0 := (Below.heap_alloc w3 (.cells #[.slice (some ⟨wd.heap.size, 0, Option.none⟩) 0 0] 31) _ (lt_heap HR3.out.1)).trans HR3.out.1
            exact (hgrow6.block _ (by have := lt_heap h0; exact this) (fun e => own_ne (ownB HS3.out.out (alloc_below w3 (.cells #[.slice (some ⟨wd.heap.size, 0, Option.none⟩) 0 0] 31))) h0 (by decide) e.symm)).trans h0
        have nP : Hid (w6.heap[w.heap.size]? = some (.cells #[.slice (some ⟨g1, o1, Option.none⟩) ts.length c1, .slice a2 (slen F) c2] 27 (0, 0))) := by
            have h0 := (Below.heap_alloc w3 (.cells #[.slice (some ⟨wd.heap.size, 0, Option.none⟩) 0 0] 31) _ (lt_heap HR3.out.2)).trans HR3.out.2
            exact (hgrow6.block _ (by have := lt_heap h0; exact this) (fun e => own_ne (ownB HS3.out.out (alloc_below w3 (.cells #[.slice (some ⟨wd.heap.size, 0, Option.none⟩) 0 0] 31))) h0 (by decide) e.symm)).trans h0
        have nN : Hid (w6.heap[N]? = some (.cells #[ua, V, .slice Option.none 0 0, .int .i64 0] 33 (0, 0))) := by
            have h0 := (Below.heap_alloc w3 (.cells #[.slice (some ⟨wd.heap.size, 0, Option.none⟩) 0 0] 31) _ (lt_heap HS3.out.blk)).trans HS3.out.blk
            exact (hgrow6.block _ (by have := lt_heap h0; exact this) (fun e => own_ne (ownB HS3.out.out (alloc_below w3 (.cells #[.slice (some ⟨wd.heap.size, 0, Option.none⟩) 0 0] 31))) h0 (by decide) e.symm)).trans h0
        obtain ⟨⟨d0, _, _, _⟩, f0, _⟩ := blk4 nN.out
        clear hown6 hgrow6 hat6 hlt6 HS2 HS3 HR3 HF3
        refine hK.out _ _ (fun e => absurd e (waitsN (by kernel_rfl))) ?_
        try simp only [Act.put, zp]
        refine wpAnyD_ready (rs := [6]) (by kernel_rfl) (by simp) ?_
        refine AllReadyD.cons rfl (fun K hK => ?_) AllReadyD.nil
        rw [if_pos (by rfl)]
        simp only [zq]
        go_wp2_with fail
        refine hK.out _ _ (fun e => absurd e (waitsN (by kernel_rfl))) ?_
        try simp only [Act.put, zp]
        refine wpAnyD_ready (rs := [7]) (by kernel_rfl) (by simp) ?_
        refine AllReadyD.cons rfl (fun K hK => ?_) AllReadyD.nil
        rw [if_pos (by rfl)]
        simp only [zq]
        go_wp2_with fail
        refine hK.out _ _ (fun e => absurd e (waitsN (by kernel_rfl))) ?_
        try simp only [Act.put, zp]
        refine wpAnyD_done (by kernel_rfl) ?_ _
        have M1 : Hid ((w6.setCell ⟨N, 0, Option.none⟩ (.slice (some ⟨g, 0, Option.none⟩) (rs.length + 1) c6)).heap[w.heap.size + 1]? = some (.cells #[.slice Option.none 0 0, .slice Option.none 0 0, .slice Option.none 0 0, .int .i64 0] 33 (0, 0))) := (Below.heap_setCell _ _ _ _ (by show w.heap.size + 1 ≠ N; omega)).trans nR.out
        have M2 : Hid ((w6.setCell ⟨N, 0, Option.none⟩ (.slice (some ⟨g, 0, Option.none⟩) (rs.length + 1) c6)).heap[w.heap.size]? = some (.cells #[.slice (some ⟨g1, o1, Option.none⟩) ts.length c1, .slice a2 (slen F) c2] 27 (0, 0))) := (Below.heap_setCell _ _ _ _ (by show w.heap.size ≠ N; omega)).trans nP.out
        clear nR nP nN d0 f0
        go_wp2
        go_roundw
        case rel => exact ⟨rs.length + 1, by omega, by go_num, ⟨_, _, N6.out, by rw [List.map_append]; exact HZ.out, by simp, M1.out, M2.out, hlt2⟩⟩
        case measure => simp [RowKit.intOf]; omega
    · obtain rfl : k = ts.length := by omega
      rw [List.take_length] at hin
      have hin' := hin.out
      obtain ⟨ua, rs, hs, hz, hlen, hR, hP, hlt2⟩ := hin'
      have HS := hid hs
      have HR := hid hR
      have HZ := hid hz
      have ha1 : ua.oneCell' = true := by obtain ⟨p, q, e⟩ := iownShape hs.out; rw [e]; rfl
      obtain ⟨⟨t0, t1, t2, t3⟩, _⟩ := blk4 hs.blk
      have RG : Hid (wr.rangeAt N 0 [ua, V, .slice Option.none 0 0, .int .i64 0]) := blk_range hs.blk
      obtain ⟨⟨x0, x1⟩, _⟩ := blk2 hP
      have TR : Hid (wr.there (w.heap.size + 1) 0 4) := blkNone HR.out
      clear hs hR hz hin hP hlt2 hlen t0 t1 t2 t3
      go_wp2_with (first | (refine wpList_load_mid rfl 33 _ rfl N 0 rfl _ _ RG.out Tryz.underlying33 rfl sizeSto ?_) | (refine store_abs rfl 33 _ _ rfl (w.heap.size + 1) 0 #[ua, V, .slice Option.none 0 0, .int .i64 0] rfl rfl TR.out sizeSto (one4 ha1 V1 rfl rfl) ?_; intro W2 hW2))
      obtain ⟨e1, e2, e3⟩ := HS.out.close HR.out (by omega) hW2
      have hlv := run_loadVar_mid W2 (w.heap.size + 1) 0 _ _ _ (blk_range e3) Tryz.underlying33 rfl sizeSto
      refine bodyPost_ret (v := .agg #[ua, V, .slice Option.none 0 0, .int .i64 0]) ?_ rfl ⟨ua, V, rs, rfl, HZ.out, e1, e2⟩
      simp [results, Tryz.results21, asAddr, hlv, Act.put]
      try rfl
set_option maxHeartbeats 8000000 in
set_option maxRecDepth 100000 in
theorem spec_Run (ts : List AR) (hn : ts.length ≤ 1048576) (hts : ∀ t ∈ ts, t.s.size ≤ 1048576) (F : SF) (hS : ssize F ≤ 1048576) (hM : (sallE F).length ≤ 10000000) (fuel : Int) (va vb : Value) (w : World) (ha : AV w 0 va ts) (hv : SV w 0 F vb) :
    Calls Tryz.prog 11 #[.agg #[va, vb], .int .i64 fuel] w (SpecSto w (runR ts F fuel).2.A (runR ts F fuel).2.V (runR ts F fuel).2.O ((runR ts F fuel).1 : Int)) := by
  have HA := hid ha
  have HV := hid hv
  have HB := hid (And.intro hn (And.intro hts (And.intro hS hM)))
  have hNd := Nat.le_trans (snodes_le F) hS
  have HVO : Hid (∀ w v, SV w 0 F v → Calls Tryz.prog 43 #[v] w (SpecNames w (nmS 1 F []))) := fun w v h => spec_VarsOf F (by omega) w v h
  obtain ⟨tot, htot⟩ : ∃ tot, runR ts F fuel = tot := ⟨_, rfl⟩
  have HT := hid htot
  obtain ⟨a1, b1, rfl⟩ := ha.shape
  obtain ⟨a2, b2, rfl⟩ := hv.shape
  have P0 := hid (PB.start w (.slice a1 ts.length b1) (.slice a2 (slen F) b2))
  have RP0 : Hid (((w.alloc (.cells #[.slice a1 ts.length b1, .slice a2 (slen F) b2] 27)).alloc (.cells #[.slice Option.none 0 0, .slice Option.none 0 0, .slice Option.none 0 0, .int .i64 0] 33)).rangeAt w.heap.size 0 [.slice a1 ts.length b1, .slice a2 (slen F) b2]) := blk_range P0.out.p
  rw [htot]
  clear ha hv hn hts hS htot hNd hM
  go_enter Tryz.func11, Tryz.ntmps11
  go_wp2_with (refine wpList_load_mid rfl 27 _ rfl w.heap.size 0 rfl _ _ RP0.out Tryz.underlying27 rfl sizeProg2 ?_)
  refine (spec_ProgOk ts HB.out.1 HB.out.2.1 F HB.out.2.2.1 HB.out.2.2.2 _ _ _ (HA.out.later P0.out.b) (HV.out.later P0.out.b)).mono ?_
  rintro e w1 ⟨rfl, hb1⟩
  have P1 := hid (P0.out.later hb1)
  clear hb1 P0 RP0
  obtain ⟨ok, hok⟩ : ∃ ok, progB ts F = ok := ⟨_, rfl⟩
  rw [hok]
  cases ok with
  | false =>
    have e0 : Hid (tot = (1, ⟨[], [], [], 0⟩)) := show _ = _ by rw [← HT.out, runR, hok]; rfl
    have TR : Hid (w1.there (w.heap.size + 1) 0 4) := blkNone P1.out.q
    clear hok
    go_wp2_with (refine store_abs rfl 33 _ _ rfl (w.heap.size + 1) 0 #[.slice Option.none 0 0, .slice Option.none 0 0, .slice Option.none 0 0, .int .i64 1] rfl rfl TR.out sizeSto (one4 rfl rfl rfl rfl) ?_; intro W2 hW2)
    obtain ⟨h1, h2⟩ := setSto4 P1.out.q hW2
    have hb2 : Below w.heap.size w1 W2 := below_of_grown h2 (fun k hk => by injection hk with hk; omega) P1.out.b.size
    have hlv := run_loadVar_mid W2 (w.heap.size + 1) 0 _ _ _ (blk_range h1) Tryz.underlying33 rfl sizeSto
    refine bodyPost_ret (v := .agg #[.slice Option.none 0 0, .slice Option.none 0 0, .slice Option.none 0 0, .int .i64 1]) ?_ rfl ⟨_, _, _, (by rw [e0.out]; rfl), (by rw [e0.out]; exact ⟨⟨Option.none, 0, rfl, .inl rfl⟩, ⟨Option.none, 0, rfl, .inl rfl⟩, ⟨Option.none, 0, rfl, .inl rfl⟩⟩), P1.out.b.trans hb2⟩
    simp [results, Tryz.results11, asAddr, hlv, Act.put]
    try rfl
  | true =>
    have T0 : Hid (tot = exec ts (nmS 1 F []) (fuelN fuel + 1) [] (.inl F) (run0 ts F fuel)) := show _ = _ by rw [← HT.out, runR, hok]; rfl
    have OK := hid (And.intro (prog_ok hok) (And.intro (run0_fine hok fuel) (And.intro (prog_few hok) (vars_few hok))))
    clear hok HT
    go_wp2_with fail
    refine (l1In_is fuel 0 4000 _).mono ?_
    rintro e w9 ⟨rfl, rfl⟩
    by_cases hfu : 0 ≤ fuel ∧ fuel ≤ 4000
    · have hfi : Hid ((fuelN fuel : Int) = fuel) := show _ = _ by rw [fuelN, if_pos hfu]; omega
      have hd : (decide (0 ≤ fuel) && decide (fuel ≤ 4000)) = true := by simp; exact hfu
      rw [hd]
      clear hd hfu
      go_wp2_with fail
      have bd : Below w1.heap.size w1 w1.drew := (Below.refl _ w1).drew
      have Pd := P1.out.later bd
      clear bd P1
      obtain ⟨W1, hW1⟩ : ∃ W1, w1.drew = W1 := ⟨_, rfl⟩
      rw [hW1] at Pd
      refine wp_region_held_drew (S := fun w' => w'.rangeAt w.heap.size 0 [.slice a1 ts.length b1, .slice a2 (slen F) b2]) (by kernel_rfl) (by rw [hW1]; exact blk_range Pd.p) (fun hHeld => ?_)
      rw [hW1] at hHeld ⊢
      clear hW1
      refine wpAnyH_take (i := 0) (v := .agg ([.slice a1 ts.length b1, .slice a2 (slen F) b2] : List Value).toArray) rfl (by kernel_rfl) (by kernel_rfl) (by kernel_rfl) (fun _ _ _ h => h) (yieldsIf_load_mid (by rfl) 27 _ rfl (w.heap.size) (0) rfl [.slice a1 ts.length b1, .slice a2 (slen F) b2] _ (fun w h => h) Tryz.underlying27 rfl sizeProg2) hHeld ?_
      simp only [Act.put, zp]
      refine wpAnyH_take (i := 1) (v := .pointer (some ⟨w.heap.size, 1, Option.none⟩)) rfl (by kernel_rfl) (by kernel_rfl) (by kernel_rfl) (fun _ _ _ h => h) (Or.inl ⟨by rfl, ?xa1⟩) hHeld ?_
      case xa1 => intro w hSw; go_simp
      simp only [Act.put, zp]
      refine wpAnyH_take (i := 2) (v := .slice a2 (slen F) b2) rfl (by kernel_rfl) (by kernel_rfl) (by kernel_rfl) (fun _ _ _ h => h) (Or.inl ⟨by rfl, ?xa2⟩) hHeld ?_
      case xa2 => intro w hSw; have h2 := hSw 1 _ rfl; go_simp
      simp only [Act.put, zp]
      refine wpAnyH_take (i := 4) (v := .agg ([.slice a1 ts.length b1, .slice a2 (slen F) b2] : List Value).toArray) rfl (by kernel_rfl) (by kernel_rfl) (by kernel_rfl) (fun _ _ _ h => h) (yieldsIf_load_mid (by rfl) 27 _ rfl (w.heap.size) (0) rfl [.slice a1 ts.length b1, .slice a2 (slen F) b2] _ (fun w h => h) Tryz.underlying27 rfl sizeProg2) hHeld ?_
      simp only [Act.put, zp]
      refine wpAnyH_take (i := 6) (v := .int .i64 fuel) rfl (by kernel_rfl) (by kernel_rfl) (by kernel_rfl) (fun _ _ _ h => h) (Or.inl ⟨by rfl, ?xa6⟩) hHeld ?_
      case xa6 => intro w hSw; go_simp
      simp only [Act.put, zp]
      refine wpAnyH_ready (rs := [3]) (by kernel_rfl) (by simp) ?_
      refine AllReadyH.cons rfl (fun K hK => ?_) AllReadyH.nil
      rw [if_pos (by rfl)]
      simp only [zq]
      go_wp2_with fail
      refine (HVO.out _ _ (HV.out.later Pd.b)).mono ?_
      rintro e w2 ⟨nv, rfl, hnv2, hb2⟩
      have P2 := hid (Pd.later hb2)
      have N2 := hid hnv2
      obtain ⟨n1, n2, rfl⟩ := hnv2.shape
      go_wp2_with fail
      refine hK.out _ _ (rangeAt_later hHeld hb2) (fun hHeld => ?_)
      clear hb2 hnv2 hK Pd
      refine wpAnyH_ready (rs := [5]) (by kernel_rfl) (by simp) ?_
      refine AllReadyH.cons rfl (fun K hK => ?_) AllReadyH.nil
      rw [if_pos (by rfl)]
      simp only [zq]
      go_wp2_with fail
      refine (spec_StoNew ts F (nmS 1 F []).length (by have := OK.out.2.2.2; omega) HB.out.1 (.slice a1 ts.length b1) (.slice a2 (slen F) b2) w2 (HA.out.later P2.out.b) (HV.out.later P2.out.b) (fun w v hv => (HVO.out w v hv).mono fun e w' ⟨u, h1, h2, h3⟩ => by obtain ⟨p, q, e⟩ := h2.shape; subst e; exact ⟨p, q, h1, h3⟩)).mono ?_
      rintro e w3 ⟨ua, uv, rs, rfl, hz, hso, hb3⟩
      have P3 := hid (P2.out.later hb3)
      have S3 := hid hso
      have HB3 := hid hb3
      have HZ := hid hz
      obtain ⟨a3, b3, e3⟩ := iownShape hso.out
      obtain ⟨a4, b4, e4⟩ := iownShape (hso.own.own (uv, List.replicate (nmS 1 F []).length 0) (by simp))
      simp only at e4
      subst e3; subst e4
      obtain ⟨m4, hm4⟩ : ∃ m4, (List.replicate (nmS 1 F []).length (0 : Int)).length = m4 := ⟨_, rfl⟩
      rw [hm4] at S3 ⊢
      go_wp2_with fail
      refine hK.out _ _ (rangeAt_later hHeld hb3) (fun hHeld => ?_)
      clear hb3 hso hz hK
      refine wpAnyH_take (i := 7) (v := .agg #[.slice a1 ts.length b1, .slice a2 (slen F) b2, .slice n1 (nmS 1 F []).length n2, .slice a3 rs.length b3, .slice a4 m4 b4, .slice Option.none 0 0, .int .i64 0, .slice Option.none 0 0, .int .i64 fuel]) rfl (by kernel_rfl) (by kernel_rfl) (by kernel_rfl) (fun _ _ _ h => h) (Or.inl ⟨by rfl, ?xab7⟩) hHeld ?_
      case xab7 => intro w hSw; go_simp
      simp only [Act.put, zp]
      refine wpAnyH_ready (rs := [8]) (by kernel_rfl) (by simp) ?_
      refine AllReadyH.cons rfl (fun K hK => ?_) AllReadyH.nil
      rw [if_pos (by rfl)]
      simp only [zq]
      go_wp2_with fail
      have hbA := alloc_below w3 (.cells #[.slice a1 ts.length b1, .slice a2 (slen F) b2, .slice n1 (nmS 1 F []).length n2, .slice a3 rs.length b3, .slice a4 m4 b4, .slice Option.none 0 0, .int .i64 0, .slice Option.none 0 0, .int .i64 fuel] 81)
      have hbl := blkLast w3 (.cells #[.slice a1 ts.length b1, .slice a2 (slen F) b2, .slice n1 (nmS 1 F []).length n2, .slice a3 rs.length b3, .slice a4 m4 b4, .slice Option.none 0 0, .int .i64 0, .slice Option.none 0 0, .int .i64 fuel] 81)
      refine hK.out _ _ (rangeAt_later hHeld hbA) (fun hHeld => ?_)
      refine wpAnyH_take (i := 9) (v := .pointer (some ⟨w3.heap.size, 0, Option.none⟩)) rfl (by kernel_rfl) (by kernel_rfl) (by kernel_rfl) (fun _ _ _ h => h) (Or.inl ⟨by rfl, ?xac9⟩) hHeld ?_
      case xac9 => intro w hSw; go_simp
      simp only [Act.put, zp]
      refine wpAnyH_done (by kernel_rfl) ?_ _
      clear hHeld hK
      have P4 := hid (P3.out.later hbA)
      have R4 : Hid (QS w2 (w3.alloc (.cells #[.slice a1 ts.length b1, .slice a2 (slen F) b2, .slice n1 (nmS 1 F []).length n2, .slice a3 rs.length b3, .slice a4 m4 b4, .slice Option.none 0 0, .int .i64 0, .slice Option.none 0 0, .int .i64 fuel] 81)) w3.heap.size ts (nmS 1 F []) rs (run0 ts F fuel) 0 [] (.slice a1 ts.length b1) (.slice a2 (slen F) b2) (.slice n1 (nmS 1 F []).length n2) (.slice a3 rs.length b3) (.slice a4 m4 b4) (.slice Option.none 0 0) (.slice Option.none 0 0)) :=
        ⟨by rw [show ((run0 ts F fuel).f : Int) = fuel from hfi.out]; exact hbl, ownB S3.out.out hbA, S3.out.own.later hbA, HZ.out, ⟨rfl, .inl ⟨rfl, rfl⟩⟩, N2.out, HA.out.later P2.out.b, HB3.out.trans (hbA.mono HB3.out.size), HB3.out.size, Nat.le_trans HB3.out.size hbA.size⟩
      have HP2 := hid P2.out.b
      obtain ⟨W4, hW4⟩ : ∃ W4, w3.alloc (.cells #[.slice a1 ts.length b1, .slice a2 (slen F) b2, .slice n1 (nmS 1 F []).length n2, .slice a3 rs.length b3, .slice a4 m4 b4, .slice Option.none 0 0, .int .i64 0, .slice Option.none 0 0, .int .i64 fuel] 81) = W4 := ⟨_, rfl⟩
      obtain ⟨R, hR⟩ : ∃ R, w3.heap.size = R := ⟨_, rfl⟩
      have hRl : w.heap.size + 1 < R := by have := lt_heap P3.out.q; omega
      rw [hW4, hR] at R4
      rw [hW4] at P4
      rw [hW4, hR]
      have RP4 : Hid (W4.rangeAt w.heap.size 0 [.slice a1 ts.length b1, .slice a2 (slen F) b2]) := blk_range P4.out.p
      have cv : W4.cell? ⟨w.heap.size, 1, Option.none⟩ = some (.slice a2 (slen F) b2) := RP4.out 1 _ rfl
      clear hbA hbl hW4 hR P3 S3 hm4 N2 RP4 HB3 P2
      go_wp2_with fail
      refine (l7Body_all (w0 := w2) (R := R) (ts := ts) (ns := nmS 1 F []) (vn := (nmS 1 F []).length) (va := .slice a1 ts.length b1) (vb := .slice a2 (slen F) b2) (nv := .slice n1 (nmS 1 F []).length n2) (sa := .slice a3 rs.length b3) (sv := .slice a4 m4 b4) rfl (fuelN fuel + 1) F [] (run0 ts F fuel) rs _ _ W4 (.slice a2 (slen F) b2) OK.out.1 (by have := OK.out.2.2.1.2.1; omega) (by have := OK.out.2.2.1.2.1; simp; omega) OK.out.2.1 (Nat.lt_succ_self _) R4.out (HV.out.later HP2.out)).mono ?_
      rintro e w7 ⟨rfl, rs7, so7, bv7, hR7, hk7, hs7⟩
      rw [← T0.out] at hR7
      obtain ⟨en, st7⟩ := tot
      have R7 := hid hR7
      have P7 : Hid (PB w w7 (.slice a1 ts.length b1) (.slice a2 (slen F) b2)) := ⟨hk7 _ _ _ (by omega) (by decide) P4.out.p, hk7 _ _ _ (by omega) (by decide) P4.out.q, HP2.out.trans (hR7.low.mono HP2.out.size)⟩
      obtain ⟨a5, b5, e5⟩ := iownShape (hR7.own.own (so7, st7.O) (by simp))
      simp only at e5
      subst e5
      have S7 : Hid (StoO w7 w.heap.size (.slice a3 rs.length b3) rs7 (.slice a4 m4 b4, st7.V) (.slice a5 st7.O.length b5, st7.O)) := (StoO.mk hR7.out hR7.own).lower HP2.out.size
      have RG : Hid (w7.rangeAt R 3 [.slice a3 rs.length b3, .slice a4 m4 b4, .slice a5 st7.O.length b5, .int .i64 (en : Int)]) := rangeSub (cs := [.slice a1 ts.length b1, .slice a2 (slen F) b2, .slice n1 (nmS 1 F []).length n2]) (es := [bv7, .int .i64 (st7.f : Int)]) (blk_range hR7.blk)
      have TR : Hid (w7.there (w.heap.size + 1) 0 4) := blkNone P7.out.q
      have HA7 := hid hR7.a
      clear hk7 hs7 R4 P4 hR7 R7 cv
      go_wp2_with (first | (refine wpList_load_mid rfl 33 _ rfl R 3 rfl _ _ RG.out Tryz.underlying33 rfl sizeSto ?_) | (refine store_abs rfl 33 _ _ rfl (w.heap.size + 1) 0 #[.slice a3 rs.length b3, .slice a4 m4 b4, .slice a5 st7.O.length b5, .int .i64 (en : Int)] rfl rfl TR.out sizeSto (one4 rfl rfl rfl rfl) ?_; intro W2 hW2))
      obtain ⟨e1, e2, e3⟩ := S7.out.put P7.out.q (by omega) P7.out.b.size hW2
      have hlv := run_loadVar_mid W2 (w.heap.size + 1) 0 _ _ _ (blk_range e3) Tryz.underlying33 rfl sizeSto
      have hst := e1.stoV
      rw [HA7.out] at hst
      refine bodyPost_ret (v := .agg #[.slice a3 rs.length b3, .slice a4 m4 b4, .slice a5 st7.O.length b5, .int .i64 (en : Int)]) ?_ rfl ⟨_, _, _, rfl, hst, P7.out.b.trans e2⟩
      simp [results, Tryz.results11, asAddr, hlv, Act.put]
      try rfl
    · have hfi : Hid ((fuelN fuel : Int) = 0) := show _ = _ by rw [fuelN, if_neg hfu]; rfl
      have hd : (decide (0 ≤ fuel) && decide (fuel ≤ 4000)) = false := by
        cases h : (decide (0 ≤ fuel) && decide (fuel ≤ 4000)) with
        | false => rfl
        | true => simp at h; exact absurd h hfu
      rw [hd]
      clear hd hfu
      go_wp2_with fail
      have bd : Below w1.heap.size w1 w1.drew := (Below.refl _ w1).drew
      have Pd := P1.out.later bd
      clear bd P1
      obtain ⟨W1, hW1⟩ : ∃ W1, w1.drew = W1 := ⟨_, rfl⟩
      rw [hW1] at Pd
      refine wp_region_held_drew (S := fun w' => w'.rangeAt w.heap.size 0 [.slice a1 ts.length b1, .slice a2 (slen F) b2]) (by kernel_rfl) (by rw [hW1]; exact blk_range Pd.p) (fun hHeld => ?_)
      rw [hW1] at hHeld ⊢
      clear hW1
      refine wpAnyH_take (i := 0) (v := .agg ([.slice a1 ts.length b1, .slice a2 (slen F) b2] : List Value).toArray) rfl (by kernel_rfl) (by kernel_rfl) (by kernel_rfl) (fun _ _ _ h => h) (yieldsIf_load_mid (by rfl) 27 _ rfl (w.heap.size) (0) rfl [.slice a1 ts.length b1, .slice a2 (slen F) b2] _ (fun w h => h) Tryz.underlying27 rfl sizeProg2) hHeld ?_
      simp only [Act.put, zp]
      refine wpAnyH_take (i := 1) (v := .pointer (some ⟨w.heap.size, 1, Option.none⟩)) rfl (by kernel_rfl) (by kernel_rfl) (by kernel_rfl) (fun _ _ _ h => h) (Or.inl ⟨by rfl, ?xb1⟩) hHeld ?_
      case xb1 => intro w hSw; go_simp
      simp only [Act.put, zp]
      refine wpAnyH_take (i := 2) (v := .slice a2 (slen F) b2) rfl (by kernel_rfl) (by kernel_rfl) (by kernel_rfl) (fun _ _ _ h => h) (Or.inl ⟨by rfl, ?xb2⟩) hHeld ?_
      case xb2 => intro w hSw; have h2 := hSw 1 _ rfl; go_simp
      simp only [Act.put, zp]
      refine wpAnyH_take (i := 4) (v := .agg ([.slice a1 ts.length b1, .slice a2 (slen F) b2] : List Value).toArray) rfl (by kernel_rfl) (by kernel_rfl) (by kernel_rfl) (fun _ _ _ h => h) (yieldsIf_load_mid (by rfl) 27 _ rfl (w.heap.size) (0) rfl [.slice a1 ts.length b1, .slice a2 (slen F) b2] _ (fun w h => h) Tryz.underlying27 rfl sizeProg2) hHeld ?_
      simp only [Act.put, zp]
      refine wpAnyH_take (i := 6) (v := .int .i64 0) rfl (by kernel_rfl) (by kernel_rfl) (by kernel_rfl) (fun _ _ _ h => h) (Or.inl ⟨by rfl, ?xb6⟩) hHeld ?_
      case xb6 => intro w hSw; go_simp
      simp only [Act.put, zp]
      refine wpAnyH_ready (rs := [3]) (by kernel_rfl) (by simp) ?_
      refine AllReadyH.cons rfl (fun K hK => ?_) AllReadyH.nil
      rw [if_pos (by rfl)]
      simp only [zq]
      go_wp2_with fail
      refine (HVO.out _ _ (HV.out.later Pd.b)).mono ?_
      rintro e w2 ⟨nv, rfl, hnv2, hb2⟩
      have P2 := hid (Pd.later hb2)
      have N2 := hid hnv2
      obtain ⟨n1, n2, rfl⟩ := hnv2.shape
      go_wp2_with fail
      refine hK.out _ _ (rangeAt_later hHeld hb2) (fun hHeld => ?_)
      clear hb2 hnv2 hK Pd
      refine wpAnyH_ready (rs := [5]) (by kernel_rfl) (by simp) ?_
      refine AllReadyH.cons rfl (fun K hK => ?_) AllReadyH.nil
      rw [if_pos (by rfl)]
      simp only [zq]
      go_wp2_with fail
      refine (spec_StoNew ts F (nmS 1 F []).length (by have := OK.out.2.2.2; omega) HB.out.1 (.slice a1 ts.length b1) (.slice a2 (slen F) b2) w2 (HA.out.later P2.out.b) (HV.out.later P2.out.b) (fun w v hv => (HVO.out w v hv).mono fun e w' ⟨u, h1, h2, h3⟩ => by obtain ⟨p, q, e⟩ := h2.shape; subst e; exact ⟨p, q, h1, h3⟩)).mono ?_
      rintro e w3 ⟨ua, uv, rs, rfl, hz, hso, hb3⟩
      have P3 := hid (P2.out.later hb3)
      have S3 := hid hso
      have HB3 := hid hb3
      have HZ := hid hz
      obtain ⟨a3, b3, e3⟩ := iownShape hso.out
      obtain ⟨a4, b4, e4⟩ := iownShape (hso.own.own (uv, List.replicate (nmS 1 F []).length 0) (by simp))
      simp only at e4
      subst e3; subst e4
      obtain ⟨m4, hm4⟩ : ∃ m4, (List.replicate (nmS 1 F []).length (0 : Int)).length = m4 := ⟨_, rfl⟩
      rw [hm4] at S3 ⊢
      go_wp2_with fail
      refine hK.out _ _ (rangeAt_later hHeld hb3) (fun hHeld => ?_)
      clear hb3 hso hz hK
      refine wpAnyH_take (i := 7) (v := .agg #[.slice a1 ts.length b1, .slice a2 (slen F) b2, .slice n1 (nmS 1 F []).length n2, .slice a3 rs.length b3, .slice a4 m4 b4, .slice Option.none 0 0, .int .i64 0, .slice Option.none 0 0, .int .i64 0]) rfl (by kernel_rfl) (by kernel_rfl) (by kernel_rfl) (fun _ _ _ h => h) (Or.inl ⟨by rfl, ?xbb7⟩) hHeld ?_
      case xbb7 => intro w hSw; go_simp
      simp only [Act.put, zp]
      refine wpAnyH_ready (rs := [8]) (by kernel_rfl) (by simp) ?_
      refine AllReadyH.cons rfl (fun K hK => ?_) AllReadyH.nil
      rw [if_pos (by rfl)]
      simp only [zq]
      go_wp2_with fail
      have hbA := alloc_below w3 (.cells #[.slice a1 ts.length b1, .slice a2 (slen F) b2, .slice n1 (nmS 1 F []).length n2, .slice a3 rs.length b3, .slice a4 m4 b4, .slice Option.none 0 0, .int .i64 0, .slice Option.none 0 0, .int .i64 0] 81)
      have hbl := blkLast w3 (.cells #[.slice a1 ts.length b1, .slice a2 (slen F) b2, .slice n1 (nmS 1 F []).length n2, .slice a3 rs.length b3, .slice a4 m4 b4, .slice Option.none 0 0, .int .i64 0, .slice Option.none 0 0, .int .i64 0] 81)
      refine hK.out _ _ (rangeAt_later hHeld hbA) (fun hHeld => ?_)
      refine wpAnyH_take (i := 9) (v := .pointer (some ⟨w3.heap.size, 0, Option.none⟩)) rfl (by kernel_rfl) (by kernel_rfl) (by kernel_rfl) (fun _ _ _ h => h) (Or.inl ⟨by rfl, ?xbc9⟩) hHeld ?_
      case xbc9 => intro w hSw; go_simp
      simp only [Act.put, zp]
      refine wpAnyH_done (by kernel_rfl) ?_ _
      clear hHeld hK
      have P4 := hid (P3.out.later hbA)
      have R4 : Hid (QS w2 (w3.alloc (.cells #[.slice a1 ts.length b1, .slice a2 (slen F) b2, .slice n1 (nmS 1 F []).length n2, .slice a3 rs.length b3, .slice a4 m4 b4, .slice Option.none 0 0, .int .i64 0, .slice Option.none 0 0, .int .i64 0] 81)) w3.heap.size ts (nmS 1 F []) rs (run0 ts F fuel) 0 [] (.slice a1 ts.length b1) (.slice a2 (slen F) b2) (.slice n1 (nmS 1 F []).length n2) (.slice a3 rs.length b3) (.slice a4 m4 b4) (.slice Option.none 0 0) (.slice Option.none 0 0)) :=
        ⟨by rw [show ((run0 ts F fuel).f : Int) = 0 from hfi.out]; exact hbl, ownB S3.out.out hbA, S3.out.own.later hbA, HZ.out, ⟨rfl, .inl ⟨rfl, rfl⟩⟩, N2.out, HA.out.later P2.out.b, HB3.out.trans (hbA.mono HB3.out.size), HB3.out.size, Nat.le_trans HB3.out.size hbA.size⟩
      have HP2 := hid P2.out.b
      obtain ⟨W4, hW4⟩ : ∃ W4, w3.alloc (.cells #[.slice a1 ts.length b1, .slice a2 (slen F) b2, .slice n1 (nmS 1 F []).length n2, .slice a3 rs.length b3, .slice a4 m4 b4, .slice Option.none 0 0, .int .i64 0, .slice Option.none 0 0, .int .i64 0] 81) = W4 := ⟨_, rfl⟩
      obtain ⟨R, hR⟩ : ∃ R, w3.heap.size = R := ⟨_, rfl⟩
      have hRl : w.heap.size + 1 < R := by have := lt_heap P3.out.q; omega
      rw [hW4, hR] at R4
      rw [hW4] at P4
      rw [hW4, hR]
      have RP4 : Hid (W4.rangeAt w.heap.size 0 [.slice a1 ts.length b1, .slice a2 (slen F) b2]) := blk_range P4.out.p
      have cv : W4.cell? ⟨w.heap.size, 1, Option.none⟩ = some (.slice a2 (slen F) b2) := RP4.out 1 _ rfl
      clear hbA hbl hW4 hR P3 S3 hm4 N2 RP4 HB3 P2
      go_wp2_with fail
      refine (l7Body_all (w0 := w2) (R := R) (ts := ts) (ns := nmS 1 F []) (vn := (nmS 1 F []).length) (va := .slice a1 ts.length b1) (vb := .slice a2 (slen F) b2) (nv := .slice n1 (nmS 1 F []).length n2) (sa := .slice a3 rs.length b3) (sv := .slice a4 m4 b4) rfl (fuelN fuel + 1) F [] (run0 ts F fuel) rs _ _ W4 (.slice a2 (slen F) b2) OK.out.1 (by have := OK.out.2.2.1.2.1; omega) (by have := OK.out.2.2.1.2.1; simp; omega) OK.out.2.1 (Nat.lt_succ_self _) R4.out (HV.out.later HP2.out)).mono ?_
      rintro e w7 ⟨rfl, rs7, so7, bv7, hR7, hk7, hs7⟩
      rw [← T0.out] at hR7
      obtain ⟨en, st7⟩ := tot
      have R7 := hid hR7
      have P7 : Hid (PB w w7 (.slice a1 ts.length b1) (.slice a2 (slen F) b2)) := ⟨hk7 _ _ _ (by omega) (by decide) P4.out.p, hk7 _ _ _ (by omega) (by decide) P4.out.q, HP2.out.trans (hR7.low.mono HP2.out.size)⟩
      obtain ⟨a5, b5, e5⟩ := iownShape (hR7.own.own (so7, st7.O) (by simp))
      simp only at e5
      subst e5
      have S7 : Hid (StoO w7 w.heap.size (.slice a3 rs.length b3) rs7 (.slice a4 m4 b4, st7.V) (.slice a5 st7.O.length b5, st7.O)) := (StoO.mk hR7.out hR7.own).lower HP2.out.size
      have RG : Hid (w7.rangeAt R 3 [.slice a3 rs.length b3, .slice a4 m4 b4, .slice a5 st7.O.length b5, .int .i64 (en : Int)]) := rangeSub (cs := [.slice a1 ts.length b1, .slice a2 (slen F) b2, .slice n1 (nmS 1 F []).length n2]) (es := [bv7, .int .i64 (st7.f : Int)]) (blk_range hR7.blk)
      have TR : Hid (w7.there (w.heap.size + 1) 0 4) := blkNone P7.out.q
      have HA7 := hid hR7.a
      clear hk7 hs7 R4 P4 hR7 R7 cv
      go_wp2_with (first | (refine wpList_load_mid rfl 33 _ rfl R 3 rfl _ _ RG.out Tryz.underlying33 rfl sizeSto ?_) | (refine store_abs rfl 33 _ _ rfl (w.heap.size + 1) 0 #[.slice a3 rs.length b3, .slice a4 m4 b4, .slice a5 st7.O.length b5, .int .i64 (en : Int)] rfl rfl TR.out sizeSto (one4 rfl rfl rfl rfl) ?_; intro W2 hW2))
      obtain ⟨e1, e2, e3⟩ := S7.out.put P7.out.q (by omega) P7.out.b.size hW2
      have hlv := run_loadVar_mid W2 (w.heap.size + 1) 0 _ _ _ (blk_range e3) Tryz.underlying33 rfl sizeSto
      have hst := e1.stoV
      rw [HA7.out] at hst
      refine bodyPost_ret (v := .agg #[.slice a3 rs.length b3, .slice a4 m4 b4, .slice a5 st7.O.length b5, .int .i64 (en : Int)]) ?_ rfl ⟨_, _, _, rfl, hst, P7.out.b.trans e2⟩
      simp [results, Tryz.results11, asAddr, hlv, Act.put]
      try rfl
end Go.Proofs.YtfoghiminlbdaaaGreat
