/-
  Texts in one: StoNewS, NamePlain, NamePut, NameShelf, NameAsc.
-/
import Derived.Test.YtcafpaahbbachaaP04ofStoNew
import Derived.Test.YtcafpaahbbachaaP08ofStoNew
import Derived.Test.YtcafpaahbbachaaP00ofStoNew
import Derived.Sort.Walk0
import Derived.Sort.KeysCollected
import Derived.Test.YtcafpaahbbachaaP02ofStoNew
import Derived.Test.YtcafpaahbbachaaP03ofStoNew
import Derived.Shelf.LaysM
import Derived.Shelf.Strconv.Clone
import Derived.Shelf.SortM.Plain
import Derived.Shelf.SortM.SortNone
import Derived.Shelf.SlIter.Nil
import Derived.Ground.SlgmProg
import Derived.Ground.GgzProg
import Derived.Test.YtcafpaahbbachaaProg
import Derived.Maps.OwnSet
import Derived.Lib.SmallJoins
/-
  The contract of spec.StoNew.
-/
namespace Go.Proofs.Ytcafpaahbbachaa
open Go.RowKit Go.Lib
set_option linter.unusedSimpArgs false
set_option linter.unusedVariables false

theorem wp_make_full {P : Program} (w : World) {o : Oper} {a : Act} {K : Act → World → Prop} {Q : Exit → Act → World → Prop} (l c : Operand) (t : TypeId) (hop : o.op = Op.makeSlice t l c)
    (base : Nat) (e : TypeId) (i : TypeInfo) (z : Value) (size : Nat) (h1 : P.underlying t = some (.slice e)) (h2 : P.info? e = some i) (h3 : i.zero = some z) (h4 : i.size = size)
    (kl kc : IntKind) (n : Nat) (hl : a.eval l = .int kl (n : Int)) (hc : a.eval c = .int kc (n : Int)) (b2 : i.bytes * n ≤ 281474976710656) (b3 : n ≤ maxLen) (b4 : base ≤ w.heap.size)
    (hK : ∀ w', w'.ownsRow base e size (.slice (some ⟨w.heap.size, 0, none⟩) n n) n (madeCells z.cells (n * size)).toList → w.grownBy w' none → K (a.put o.dst (.slice (some ⟨w.heap.size, 0, none⟩) n n)) w') : o.wp P a w K Q := by
  obtain ⟨w', hrun, r1, r2⟩ := run_make_full (P := P) w base t e i z size h1 h2 h3 h4 kl kc n b2 b3 b4
  unfold Oper.wp
  simp [execOp, hop, hl, hc, hrun, Result.andThen]
  exact hK w' r1 r2
theorem nz_in {n : Int} {m : Nat} (h : n = (m : Int)) (hm : m ≤ 16) : nz n = List.replicate m 0 := by subst h; rw [nz, if_neg (by omega)]; rfl
theorem nz_out {n : Int} (h : ¬ (0 ≤ n ∧ n ≤ 16)) : nz n = List.replicate 0 0 := by rw [nz, if_pos (by omega)]; rfl
set_option maxHeartbeats 2000000 in
set_option maxRecDepth 100000 in
theorem spec_StoNew (ts : List AR) (F : SF) (n : Nat) (hn : n ≤ 10000000) (hl : ts.length ≤ 1048576) (va vb : Value) (w : World) (ha : AV w 0 va ts) (hb : SV w 0 F vb)
    (hV : ∀ w v, SV w 0 F v → Calls Try.prog 15 #[v] w fun e w' => ∃ a c, e = .returned (.slice a n c) ∧ Below w.heap.size w w') :
    Calls Try.prog 5 #[.agg #[va, vb]] w (NewSto w ts n) := by
  have HA := Lib.hid (And.intro ha hb)
  have HV := Lib.hid hV
  obtain ⟨a1, c1, rfl⟩ := ha.shape
  obtain ⟨a2, c2, rfl⟩ := hb.shape
  obtain ⟨i0, hi, hz0, hz1, hz2⟩ := info_parts infoI8
  obtain ⟨j0, hj, hy0, hy1, hy2⟩ := info_parts infoIS8
  have HI := Lib.hid (And.intro hi (And.intro hz0 (And.intro hz1 hz2)))
  have HJ := Lib.hid (And.intro hj (And.intro hy0 (And.intro hy1 hy2)))
  clear ha hb hV hi hz0 hz1 hz2 hj hy0 hy1 hy2
  have b2 : Hid (Below w.heap.size w ((w.alloc (.cells #[.slice a1 ts.length c1, .slice a2 (slen F) c2] 35)).alloc (.cells #[.slice Option.none 0 0, .slice Option.none 0 0, .slice Option.none 0 0, .int .i64 0] 30))) := (alloc_below w _).alloc (by simp) _
  have p0 : Hid (((w.alloc (.cells #[.slice a1 ts.length c1, .slice a2 (slen F) c2] 35)).alloc (.cells #[.slice Option.none 0 0, .slice Option.none 0 0, .slice Option.none 0 0, .int .i64 0] 30)).heap[w.heap.size]? = some (.cells #[.slice a1 ts.length c1, .slice a2 (slen F) c2] 35 (0, 0))) := by
    show _ = _
    rw [Below.heap_alloc _ _ _ (by simp)]; exact blkLast _ _
  have p1 : Hid (((w.alloc (.cells #[.slice a1 ts.length c1, .slice a2 (slen F) c2] 35)).alloc (.cells #[.slice Option.none 0 0, .slice Option.none 0 0, .slice Option.none 0 0, .int .i64 0] 30)).heap[w.heap.size + 1]? = some (.cells #[.slice Option.none 0 0, .slice Option.none 0 0, .slice Option.none 0 0, .int .i64 0] 30 (0, 0))) :=
    (congrArg (fun n => ((w.alloc (.cells #[.slice a1 ts.length c1, .slice a2 (slen F) c2] 35)).alloc (.cells #[.slice Option.none 0 0, .slice Option.none 0 0, .slice Option.none 0 0, .int .i64 0] 30)).heap[n]?) (show w.heap.size + 1 = (w.alloc (.cells #[.slice a1 ts.length c1, .slice a2 (slen F) c2] 35)).heap.size by simp)).trans (blkLast _ _)
  go_enter Try.func5, Try.ntmps5
  go_wp2_with fail
  refine (HV.out _ _ (HA.out.2.later b2.out)).mono ?_
  rintro e w1 ⟨av, cv, rfl, hb1⟩
  have B1 := Lib.hid (b2.out.trans (hb1.mono b2.out.size))
  have q0 := Lib.hid ((hb1.block _ (lt_heap p0.out)).trans p0.out)
  have q1 := Lib.hid ((hb1.block _ (lt_heap p1.out)).trans p1.out)
  clear hb1 b2 p0 p1
  go_wp2_with (refine wpList_make_full _ rfl _ _ 28 rfl w1.heap.size 3 i0 _ 1 Try.underlying28 HI.out.1 HI.out.2.1 HI.out.2.2.1 .i64 .i64 _ _ n rfl rfl rfl rfl ?c1 ?c2 ?c3 ?_)
  case c1 => have := HI.out.2.2.2; first | omega | (rw [this]; omega)
  case c2 => unfold maxLen; omega
  try (case c3 => exact Nat.le_refl _)
  intro w2 hown hgrow
  have HF := Lib.hid (fresh_made hown hgrow)
  have r0 := Lib.hid ((HF.out.2.block _ (lt_heap q0.out)).trans q0.out)
  have r1 := Lib.hid ((HF.out.2.block _ (lt_heap q1.out)).trans q1.out)
  clear hown hgrow q0 q1
  go_wp2_with (refine store_abs rfl 30 _ _ rfl w2.heap.size 0 #[.slice Option.none 0 0, .slice (some ⟨w1.heap.size, 0, Option.none⟩) n n, .slice Option.none 0 0, .int .i64 0] rfl rfl ?ht0 sizeSto ?ho0 ?_; exact (thSto4 _ _ _ _ _ _); exact (one4 rfl rfl rfl rfl); intro W hW; have HW := Lib.hid (newSto4 hW); have y0 : W.cell? ⟨w.heap.size, 0, Option.none⟩ = some (.slice a1 ts.length c1) := (blk2 ((HW.out.2.block _ (lt_heap r0.out)).trans r0.out)).1.1; clear hW)
  obtain ⟨N, hN⟩ : ∃ N, N = w2.heap.size := ⟨_, rfl⟩
  have S0 := Lib.hid (StB.start (w0 := w) (B := w.heap.size) HF.out B1.out B1.out.size HW.out.2 HW.out.1 (Nat.le_trans B1.out.size HF.out.2.size))
  have z0 := Lib.hid ((HW.out.2.block _ (lt_heap r0.out)).trans r0.out)
  have z1 := Lib.hid ((HW.out.2.block _ (lt_heap r1.out)).trans r1.out)
  rw [← hN] at S0
  rw [← hN]
  obtain ⟨V, hVv⟩ : ∃ V : Value, V = .slice (some ⟨w1.heap.size, 0, Option.none⟩) n n := ⟨_, rfl⟩
  rw [← hVv] at S0
  rw [← hVv]
  have V1 : V.oneCell' = true := by rw [hVv]; rfl
  have Nlt : w.heap.size + 1 < N := by have := lt_heap r1.out; omega
  clear HW r0 r1 hN hVv HF y0
  go_loopw [4] (fun i wr => ∃ k : Nat, k ≤ ts.length ∧ i = .int .i64 k ∧ Hid (∃ ua rs, StB w wr w.heap.size N ua rs (V, List.replicate n 0) ∧ rs.map (·.2) = zrows (ts.take k) ∧ rs.length = k ∧ wr.heap[w.heap.size + 1]? = some (.cells #[.slice Option.none 0 0, .slice Option.none 0 0, .slice Option.none 0 0, .int .i64 0] 30 (0, 0)) ∧ wr.heap[w.heap.size]? = some (.cells #[.slice a1 ts.length c1, .slice a2 (slen F) c2] 35 (0, 0)) ∧ w.heap.size + 1 < N)) (fun i _ => ts.length - (RowKit.intOf i).toNat)
  case atStart => exact ⟨0, by omega, rfl, ⟨_, [], S0.out, by simp [zrows], rfl, z1.out, z0.out, Nlt⟩⟩
  case round =>
    obtain ⟨k, hk, rfl, hin⟩ := hrel
    by_cases hlt : k < ts.length
    · have hltI : (k : Int) < (ts.length : Int) := by omega
      obtain ⟨t, ht⟩ : ∃ t, ts[k]? = some t := ⟨ts[k], List.getElem?_eq_getElem hlt⟩
      obtain ⟨ua, rs, hs, hz, hlen, hR, hP, hlt2⟩ := hin.out
      obtain ⟨g1, o1, rfl, hc0, hc1⟩ : ∃ g off, a1 = some ⟨g, off, Option.none⟩ ∧ wr.cell? ⟨g, off + k * 2, Option.none⟩ = some (.string t.s) ∧ wr.cell? ⟨g, off + k * 2 + 1, Option.none⟩ = some (.int .i64 t.n) := by
        obtain ⟨g, off, cc, e, hcc⟩ := arrAt_cells (HA.out.1.later hs.low) (fun e => by subst e; simp at ht)
        injection e with e
        exact ⟨g, off, e, hcc k t ht⟩
      obtain ⟨⟨x0, _⟩, _⟩ := blk2 hP
      have HS := Lib.hid hs
      have HR := Lib.hid (And.intro hR hP)
      have HZ0 : Hid (rs.map (·.2) ++ [nz t.n] = zrows (ts.take (k + 1))) := show rs.map (·.2) ++ [nz t.n] = zrows (ts.take (k + 1)) by rw [zrows_take ht, hz]
      subst hlen
      clear hs hR hP hz hin ht hc0
      by_cases hin : 0 ≤ t.n ∧ t.n ≤ 16
      · obtain ⟨m, hm⟩ : ∃ m : Nat, t.n = (m : Int) := ⟨t.n.toNat, by omega⟩
        have hm16 : m ≤ 16 := by omega
        have HZ : Hid (rs.map (·.2) ++ [List.replicate m 0] = zrows (ts.take (rs.length + 1))) := show rs.map (·.2) ++ [List.replicate m 0] = _ by rw [← nz_in hm hm16]; exact HZ0.out
        have hb1 : (decide (0 ≤ (m : Int)) && decide ((m : Int) ≤ 16)) = true := by rw [← hm]; simp [hin]
        rw [hm] at hc1
        clear HZ0 hin hm
        go_wp2_with fail
        refine (l1In_is (m : Int) 0 16 _).mono ?_
        rintro e w9 ⟨rfl, rfl⟩
        rw [hb1]
        clear hc1 hb1
        go_wp2_with fail
        refine region_drew (by kernel_rfl) (fun wd hwd => ?_)
        have bd : Below wr.heap.size wr wd := by rw [hwd]; exact (Below.refl _ wr).drew
        clear hwd
        have HS2 := Lib.hid (HS.out.later bd)
        have HR2 := Lib.hid (And.intro ((bd.block _ (lt_heap HR.out.1)).trans HR.out.1) ((bd.block _ (lt_heap HR.out.2)).trans HR.out.2))
        obtain ⟨⟨s0, _, _, _⟩, _⟩ := blk4 HS2.out.blk
        clear HS HR bd x0
        refine wpAny_take (i := 0) (v := .pointer (some ⟨N, 0, Option.none⟩)) rfl (by kernel_rfl) (by kernel_rfl) (by kernel_rfl) (fun _ _ _ h => h) (Or.inl ⟨by rfl, ?b0m⟩) ?_
        case b0m => intro w; go_simp
        simp only [Act.put, List.getElem_toArray, List.getElem_cons_succ, List.getElem_cons_zero, List.setIfInBounds_toArray, List.set_cons_zero, List.set_cons_succ]
        refine wpAny_take (i := 2) (v := .int .i64 ((m : Nat) : Int)) rfl (by kernel_rfl) (by kernel_rfl) (by kernel_rfl) (fun _ _ _ h => h) (Or.inl ⟨by rfl, ?b2m⟩) ?_
        case b2m => intro w; go_simp
        simp only [Act.put, List.getElem_toArray, List.getElem_cons_succ, List.getElem_cons_zero, List.setIfInBounds_toArray, List.set_cons_zero, List.set_cons_succ]
        refine wpAny_till (i := 1) (v := ua) (fun w' => w'.cell? ⟨N, 0, Option.none⟩ = some ua) rfl (by kernel_rfl) (by kernel_rfl) (by kernel_rfl) (fun _ _ _ h => h) (Or.inl ⟨by rfl, ?b1m⟩) s0 (fun hHeld => ?_)
        case b1m => intro w hSw; go_simp
        simp only [Act.put, List.getElem_toArray, List.getElem_cons_succ, List.getElem_cons_zero, List.setIfInBounds_toArray, List.set_cons_zero, List.set_cons_succ]
        refine wpAnyD_ready (rs := [3]) (by kernel_rfl) (by simp) ?_
        refine AllReadyD.cons rfl (fun K hK => ?_) AllReadyD.nil
        rw [if_pos (by rfl)]
        simp only [List.getElem_toArray, List.getElem_cons_succ, List.getElem_cons_zero]
        refine wp_make_full wd _ _ 28 rfl wd.heap.size 3 i0 _ 1 Try.underlying28 HI.out.1 HI.out.2.1 HI.out.2.2.1 .i64 .i64 m (by rfl) (by rfl) (by have := HI.out.2.2.2; rw [this]; omega) (by unfold maxLen; omega) (Nat.le_refl _) ?_
        intro w3 hown3 hgrow3
        have hf3 := fresh_made (n := m) (by simpa [Value.cells] using hown3) hgrow3
        have HF3 := Lib.hid hf3
        have s3 := keeps hf3.2 s0
        have HS3 := Lib.hid (HS2.out.later hf3.2)
        have HR3 := Lib.hid (And.intro ((hf3.2.block _ (lt_heap HR2.out.1)).trans HR2.out.1) ((hf3.2.block _ (lt_heap HR2.out.2)).trans HR2.out.2))
        clear hf3 HR2 hown3 hgrow3
        refine hK.out _ _ (fun _ => s3) ?_
        try simp only [Act.put, List.getElem_toArray, List.getElem_cons_succ, List.getElem_cons_zero, List.setIfInBounds_toArray, List.set_cons_zero, List.set_cons_succ]
        refine wpAnyD_ready (rs := [4]) (by kernel_rfl) (by simp) ?_
        refine AllReadyD.cons rfl (fun K hK => ?_) AllReadyD.nil
        rw [if_pos (by rfl)]
        simp only [List.getElem_toArray, List.getElem_cons_succ, List.getElem_cons_zero]
        go_wp2_with fail
        refine hK.out _ _ (fun _ => keeps (alloc_below _ _) s3) ?_
        try simp only [Act.put, List.getElem_toArray, List.getElem_cons_succ, List.getElem_cons_zero, List.setIfInBounds_toArray, List.set_cons_zero, List.set_cons_succ]
        refine wpAnyD_ready (rs := [5]) (by kernel_rfl) (by simp) ?_
        refine AllReadyD.cons rfl (fun K hK => ?_) AllReadyD.nil
        rw [if_pos (by rfl)]
        simp only [List.getElem_toArray, List.getElem_cons_succ, List.getElem_cons_zero]
        refine wp_append_lies _ _ _ 27 (by rfl) w.heap.size 28 j0 _ 1 24 Try.underlying27 HJ.out.1 HJ.out.2.1 HJ.out.2.2.1 HJ.out.2.2.2 rfl (by decide) ua rs.length (rs.map (·.1)) (by rfl) (ownB HS3.out.out (alloc_below _ _)) ⟨w3.heap.size, 0, Option.none⟩ 1 1 [.slice (some ⟨wd.heap.size, 0, Option.none⟩) m m] (by rfl) (by rfl) ?k1m ?k2m (by decide) ?k3m ?k4m ?k5m (w3.heap.size + 1) (by simp) ?_
        case k1m => exact new1 _ _ _
        case k2m => intro u hu; simp at hu; subst hu; rfl
        case k3m => unfold maxLen; omega
        case k4m => omega
        case k5m => have := HS3.out.ge.2; simp; omega
        intro g c6 w6 hown6 hgrow6 hat6 hlt6
        have N6 := Lib.hid (HS2.out.next HF3.out rfl hown6 hgrow6)
        have nR : Hid (w6.heap[w.heap.size + 1]? = some (.cells #[.slice Option.none 0 0, .slice Option.none 0 0, .slice Option.none 0 0, .int .i64 0] 30 (0, 0))) := by
            have h0 := (Below.heap_alloc w3 (.cells #[.slice (some ⟨wd.heap.size, 0, Option.none⟩) m m] 28) _ (lt_heap HR3.out.1)).trans HR3.out.1
            exact (hgrow6.block _ (by have := lt_heap h0; exact this) (fun e => own_ne (ownB HS3.out.out (alloc_below w3 (.cells #[.slice (some ⟨wd.heap.size, 0, Option.none⟩) m m] 28))) h0 (by decide) e.symm)).trans h0
        have nP : Hid (w6.heap[w.heap.size]? = some (.cells #[.slice (some ⟨g1, o1, Option.none⟩) ts.length c1, .slice a2 (slen F) c2] 35 (0, 0))) := by
            have h0 := (Below.heap_alloc w3 (.cells #[.slice (some ⟨wd.heap.size, 0, Option.none⟩) m m] 28) _ (lt_heap HR3.out.2)).trans HR3.out.2
            exact (hgrow6.block _ (by have := lt_heap h0; exact this) (fun e => own_ne (ownB HS3.out.out (alloc_below w3 (.cells #[.slice (some ⟨wd.heap.size, 0, Option.none⟩) m m] 28))) h0 (by decide) e.symm)).trans h0
        have nN : Hid (w6.heap[N]? = some (.cells #[ua, V, .slice Option.none 0 0, .int .i64 0] 30 (0, 0))) := by
            have h0 := (Below.heap_alloc w3 (.cells #[.slice (some ⟨wd.heap.size, 0, Option.none⟩) m m] 28) _ (lt_heap HS3.out.blk)).trans HS3.out.blk
            exact (hgrow6.block _ (by have := lt_heap h0; exact this) (fun e => own_ne (ownB HS3.out.out (alloc_below w3 (.cells #[.slice (some ⟨wd.heap.size, 0, Option.none⟩) m m] 28))) h0 (by decide) e.symm)).trans h0
        obtain ⟨⟨d0, _, _, _⟩, f0, _⟩ := blk4 nN.out
        clear hown6 hgrow6 hat6 hlt6 HS2 HS3 HR3 HF3
        refine hK.out _ _ (fun e => absurd e (waitsN (by kernel_rfl))) ?_
        try simp only [Act.put, List.getElem_toArray, List.getElem_cons_succ, List.getElem_cons_zero, List.setIfInBounds_toArray, List.set_cons_zero, List.set_cons_succ]
        refine wpAnyD_ready (rs := [6]) (by kernel_rfl) (by simp) ?_
        refine AllReadyD.cons rfl (fun K hK => ?_) AllReadyD.nil
        rw [if_pos (by rfl)]
        simp only [List.getElem_toArray, List.getElem_cons_succ, List.getElem_cons_zero]
        go_wp2_with fail
        refine hK.out _ _ (fun e => absurd e (waitsN (by kernel_rfl))) ?_
        try simp only [Act.put, List.getElem_toArray, List.getElem_cons_succ, List.getElem_cons_zero, List.setIfInBounds_toArray, List.set_cons_zero, List.set_cons_succ]
        refine wpAnyD_ready (rs := [7]) (by kernel_rfl) (by simp) ?_
        refine AllReadyD.cons rfl (fun K hK => ?_) AllReadyD.nil
        rw [if_pos (by rfl)]
        simp only [List.getElem_toArray, List.getElem_cons_succ, List.getElem_cons_zero]
        go_wp2_with fail
        refine hK.out _ _ (fun e => absurd e (waitsN (by kernel_rfl))) ?_
        try simp only [Act.put, List.getElem_toArray, List.getElem_cons_succ, List.getElem_cons_zero, List.setIfInBounds_toArray, List.set_cons_zero, List.set_cons_succ]
        refine wpAnyD_done (by kernel_rfl) ?_ _
        have M1 : Hid ((w6.setCell ⟨N, 0, Option.none⟩ (.slice (some ⟨g, 0, Option.none⟩) (rs.length + 1) c6)).heap[w.heap.size + 1]? = some (.cells #[.slice Option.none 0 0, .slice Option.none 0 0, .slice Option.none 0 0, .int .i64 0] 30 (0, 0))) := (Below.heap_setCell _ _ _ _ (by show w.heap.size + 1 ≠ N; omega)).trans nR.out
        have M2 : Hid ((w6.setCell ⟨N, 0, Option.none⟩ (.slice (some ⟨g, 0, Option.none⟩) (rs.length + 1) c6)).heap[w.heap.size]? = some (.cells #[.slice (some ⟨g1, o1, Option.none⟩) ts.length c1, .slice a2 (slen F) c2] 35 (0, 0))) := (Below.heap_setCell _ _ _ _ (by show w.heap.size ≠ N; omega)).trans nP.out
        clear nR nP nN d0 f0
        go_wp2
        go_roundw
        case rel => exact ⟨rs.length + 1, by omega, by go_num, ⟨_, _, N6.out, by rw [List.map_append]; exact HZ.out, by simp, M1.out, M2.out, hlt2⟩⟩
        case measure => simp [RowKit.intOf]; omega
      · have HZ : Hid (rs.map (·.2) ++ [List.replicate 0 0] = zrows (ts.take (rs.length + 1))) := show rs.map (·.2) ++ [List.replicate 0 0] = _ by rw [← nz_out hin]; exact HZ0.out
        have hb1 : (decide (0 ≤ t.n) && decide (t.n ≤ 16)) = false := by
          rcases Int.lt_or_le t.n 0 with h | h
          · rw [decide_eq_false (by omega)]; rfl
          · rw [decide_eq_false (p := t.n ≤ 16) (by omega)]; simp
        clear HZ0 hin
        go_wp2_with fail
        refine (l1In_is t.n 0 16 _).mono ?_
        rintro e w9 ⟨rfl, rfl⟩
        rw [hb1]
        clear hc1 hb1
        go_wp2_with fail
        refine region_drew (by kernel_rfl) (fun wd hwd => ?_)
        have bd : Below wr.heap.size wr wd := by rw [hwd]; exact (Below.refl _ wr).drew
        clear hwd
        have HS2 := Lib.hid (HS.out.later bd)
        have HR2 := Lib.hid (And.intro ((bd.block _ (lt_heap HR.out.1)).trans HR.out.1) ((bd.block _ (lt_heap HR.out.2)).trans HR.out.2))
        obtain ⟨⟨s0, _, _, _⟩, _⟩ := blk4 HS2.out.blk
        clear HS HR bd x0
        refine wpAny_take (i := 0) (v := .pointer (some ⟨N, 0, Option.none⟩)) rfl (by kernel_rfl) (by kernel_rfl) (by kernel_rfl) (fun _ _ _ h => h) (Or.inl ⟨by rfl, ?b0z⟩) ?_
        case b0z => intro w; go_simp
        simp only [Act.put, List.getElem_toArray, List.getElem_cons_succ, List.getElem_cons_zero, List.setIfInBounds_toArray, List.set_cons_zero, List.set_cons_succ]
        refine wpAny_take (i := 2) (v := .int .i64 (0 : Int)) rfl (by kernel_rfl) (by kernel_rfl) (by kernel_rfl) (fun _ _ _ h => h) (Or.inl ⟨by rfl, ?b2z⟩) ?_
        case b2z => intro w; go_simp
        simp only [Act.put, List.getElem_toArray, List.getElem_cons_succ, List.getElem_cons_zero, List.setIfInBounds_toArray, List.set_cons_zero, List.set_cons_succ]
        refine wpAny_till (i := 1) (v := ua) (fun w' => w'.cell? ⟨N, 0, Option.none⟩ = some ua) rfl (by kernel_rfl) (by kernel_rfl) (by kernel_rfl) (fun _ _ _ h => h) (Or.inl ⟨by rfl, ?b1z⟩) s0 (fun hHeld => ?_)
        case b1z => intro w hSw; go_simp
        simp only [Act.put, List.getElem_toArray, List.getElem_cons_succ, List.getElem_cons_zero, List.setIfInBounds_toArray, List.set_cons_zero, List.set_cons_succ]
        refine wpAnyD_ready (rs := [3]) (by kernel_rfl) (by simp) ?_
        refine AllReadyD.cons rfl (fun K hK => ?_) AllReadyD.nil
        rw [if_pos (by rfl)]
        simp only [List.getElem_toArray, List.getElem_cons_succ, List.getElem_cons_zero]
        refine wp_make_full wd _ _ 28 rfl wd.heap.size 3 i0 _ 1 Try.underlying28 HI.out.1 HI.out.2.1 HI.out.2.2.1 .i64 .i64 0 (by rfl) (by rfl) (by have := HI.out.2.2.2; rw [this]; omega) (by unfold maxLen; omega) (Nat.le_refl _) ?_
        intro w3 hown3 hgrow3
        have hf3 := fresh_made (n := 0) (by simpa [Value.cells] using hown3) hgrow3
        have HF3 := Lib.hid hf3
        have s3 := keeps hf3.2 s0
        have HS3 := Lib.hid (HS2.out.later hf3.2)
        have HR3 := Lib.hid (And.intro ((hf3.2.block _ (lt_heap HR2.out.1)).trans HR2.out.1) ((hf3.2.block _ (lt_heap HR2.out.2)).trans HR2.out.2))
        clear hf3 HR2 hown3 hgrow3
        refine hK.out _ _ (fun _ => s3) ?_
        try simp only [Act.put, List.getElem_toArray, List.getElem_cons_succ, List.getElem_cons_zero, List.setIfInBounds_toArray, List.set_cons_zero, List.set_cons_succ]
        refine wpAnyD_ready (rs := [4]) (by kernel_rfl) (by simp) ?_
        refine AllReadyD.cons rfl (fun K hK => ?_) AllReadyD.nil
        rw [if_pos (by rfl)]
        simp only [List.getElem_toArray, List.getElem_cons_succ, List.getElem_cons_zero]
        go_wp2_with fail
        refine hK.out _ _ (fun _ => keeps (alloc_below _ _) s3) ?_
        try simp only [Act.put, List.getElem_toArray, List.getElem_cons_succ, List.getElem_cons_zero, List.setIfInBounds_toArray, List.set_cons_zero, List.set_cons_succ]
        refine wpAnyD_ready (rs := [5]) (by kernel_rfl) (by simp) ?_
        refine AllReadyD.cons rfl (fun K hK => ?_) AllReadyD.nil
        rw [if_pos (by rfl)]
        simp only [List.getElem_toArray, List.getElem_cons_succ, List.getElem_cons_zero]
        refine wp_append_lies _ _ _ 27 (by rfl) w.heap.size 28 j0 _ 1 24 Try.underlying27 HJ.out.1 HJ.out.2.1 HJ.out.2.2.1 HJ.out.2.2.2 rfl (by decide) ua rs.length (rs.map (·.1)) (by rfl) (ownB HS3.out.out (alloc_below _ _)) ⟨w3.heap.size, 0, Option.none⟩ 1 1 [.slice (some ⟨wd.heap.size, 0, Option.none⟩) 0 0] (by rfl) (by rfl) ?k1z ?k2z (by decide) ?k3z ?k4z ?k5z (w3.heap.size + 1) (by simp) ?_
        case k1z => exact new1 _ _ _
        case k2z => intro u hu; simp at hu; subst hu; rfl
        case k3z => unfold maxLen; omega
        case k4z => omega
        case k5z => have := HS3.out.ge.2; simp; omega
        intro g c6 w6 hown6 hgrow6 hat6 hlt6
        have N6 := Lib.hid (HS2.out.next HF3.out rfl hown6 hgrow6)
        have nR : Hid (w6.heap[w.heap.size + 1]? = some (.cells #[.slice Option.none 0 0, .slice Option.none 0 0, .slice Option.none 0 0, .int .i64 0] 30 (0, 0))) := by
            have h0 := (Below.heap_alloc w3 (.cells #[.slice (some ⟨wd.heap.size, 0, Option.none⟩) 0 0] 28) _ (lt_heap HR3.out.1)).trans HR3.out.1
            exact (hgrow6.block _ (by have := lt_heap h0; exact this) (fun e => own_ne (ownB HS3.out.out (alloc_below w3 (.cells #[.slice (some ⟨wd.heap.size, 0, Option.none⟩) 0 0] 28))) h0 (by decide) e.symm)).trans h0
        have nP : Hid (w6.heap[w.heap.size]? = some (.cells #[.slice (some ⟨g1, o1, Option.none⟩) ts.length c1, .slice a2 (slen F) c2] 35 (0, 0))) := by
            have h0 := (Below.heap_alloc w3 (.cells #[.slice (some ⟨wd.heap.size, 0, Option.none⟩) 0 0] 28) _ (lt_heap HR3.out.2)).trans HR3.out.2
            exact (hgrow6.block _ (by have := lt_heap h0; exact this) (fun e => own_ne (ownB HS3.out.out (alloc_below w3 (.cells #[.slice (some ⟨wd.heap.size, 0, Option.none⟩) 0 0] 28))) h0 (by decide) e.symm)).trans h0
        have nN : Hid (w6.heap[N]? = some (.cells #[ua, V, .slice Option.none 0 0, .int .i64 0] 30 (0, 0))) := by
            have h0 := (Below.heap_alloc w3 (.cells #[.slice (some ⟨wd.heap.size, 0, Option.none⟩) 0 0] 28) _ (lt_heap HS3.out.blk)).trans HS3.out.blk
            exact (hgrow6.block _ (by have := lt_heap h0; exact this) (fun e => own_ne (ownB HS3.out.out (alloc_below w3 (.cells #[.slice (some ⟨wd.heap.size, 0, Option.none⟩) 0 0] 28))) h0 (by decide) e.symm)).trans h0
        obtain ⟨⟨d0, _, _, _⟩, f0, _⟩ := blk4 nN.out
        clear hown6 hgrow6 hat6 hlt6 HS2 HS3 HR3 HF3
        refine hK.out _ _ (fun e => absurd e (waitsN (by kernel_rfl))) ?_
        try simp only [Act.put, List.getElem_toArray, List.getElem_cons_succ, List.getElem_cons_zero, List.setIfInBounds_toArray, List.set_cons_zero, List.set_cons_succ]
        refine wpAnyD_ready (rs := [6]) (by kernel_rfl) (by simp) ?_
        refine AllReadyD.cons rfl (fun K hK => ?_) AllReadyD.nil
        rw [if_pos (by rfl)]
        simp only [List.getElem_toArray, List.getElem_cons_succ, List.getElem_cons_zero]
        go_wp2_with fail
        refine hK.out _ _ (fun e => absurd e (waitsN (by kernel_rfl))) ?_
        try simp only [Act.put, List.getElem_toArray, List.getElem_cons_succ, List.getElem_cons_zero, List.setIfInBounds_toArray, List.set_cons_zero, List.set_cons_succ]
        refine wpAnyD_ready (rs := [7]) (by kernel_rfl) (by simp) ?_
        refine AllReadyD.cons rfl (fun K hK => ?_) AllReadyD.nil
        rw [if_pos (by rfl)]
        simp only [List.getElem_toArray, List.getElem_cons_succ, List.getElem_cons_zero]
        go_wp2_with fail
        refine hK.out _ _ (fun e => absurd e (waitsN (by kernel_rfl))) ?_
        try simp only [Act.put, List.getElem_toArray, List.getElem_cons_succ, List.getElem_cons_zero, List.setIfInBounds_toArray, List.set_cons_zero, List.set_cons_succ]
        refine wpAnyD_done (by kernel_rfl) ?_ _
        have M1 : Hid ((w6.setCell ⟨N, 0, Option.none⟩ (.slice (some ⟨g, 0, Option.none⟩) (rs.length + 1) c6)).heap[w.heap.size + 1]? = some (.cells #[.slice Option.none 0 0, .slice Option.none 0 0, .slice Option.none 0 0, .int .i64 0] 30 (0, 0))) := (Below.heap_setCell _ _ _ _ (by show w.heap.size + 1 ≠ N; omega)).trans nR.out
        have M2 : Hid ((w6.setCell ⟨N, 0, Option.none⟩ (.slice (some ⟨g, 0, Option.none⟩) (rs.length + 1) c6)).heap[w.heap.size]? = some (.cells #[.slice (some ⟨g1, o1, Option.none⟩) ts.length c1, .slice a2 (slen F) c2] 35 (0, 0))) := (Below.heap_setCell _ _ _ _ (by show w.heap.size ≠ N; omega)).trans nP.out
        clear nR nP nN d0 f0
        go_wp2
        go_roundw
        case rel => exact ⟨rs.length + 1, by omega, by go_num, ⟨_, _, N6.out, by rw [List.map_append]; exact HZ.out, by simp, M1.out, M2.out, hlt2⟩⟩
        case measure => simp [RowKit.intOf]; omega
    · obtain rfl : k = ts.length := by omega
      rw [List.take_length] at hin
      have hin' := hin.out
      obtain ⟨ua, rs, hs, hz, hlen, hR, hP, hlt2⟩ := hin'
      have HS := Lib.hid hs
      have HR := Lib.hid hR
      have HZ := Lib.hid hz
      have ha1 : ua.oneCell' = true := by obtain ⟨p, q, e⟩ := iownShape hs.out; rw [e]; rfl
      obtain ⟨⟨t0, t1, t2, t3⟩, _⟩ := blk4 hs.blk
      have RG : Hid (wr.rangeAt N 0 [ua, V, .slice Option.none 0 0, .int .i64 0]) := blk_range hs.blk
      obtain ⟨⟨x0, x1⟩, _⟩ := blk2 hP
      have TR : Hid (wr.there (w.heap.size + 1) 0 4) := blkNone HR.out
      clear hs hR hz hin hP hlt2 hlen t0 t1 t2 t3
      go_wp2_with (first | (refine wpList_load_mid rfl 30 _ rfl N 0 rfl _ _ RG.out Try.underlying30 rfl sizeSto ?_) | (refine store_abs rfl 30 _ _ rfl (w.heap.size + 1) 0 #[ua, V, .slice Option.none 0 0, .int .i64 0] rfl rfl TR.out sizeSto (one4 ha1 V1 rfl rfl) ?_; intro W2 hW2))
      obtain ⟨e1, e2, e3⟩ := HS.out.close HR.out (by omega) hW2
      have hlv := run_loadVar_mid W2 (w.heap.size + 1) 0 _ _ _ (blk_range e3) Try.underlying30 rfl sizeSto
      refine bodyPost_ret (v := .agg #[ua, V, .slice Option.none 0 0, .int .i64 0]) ?_ rfl ⟨ua, V, rs, rfl, HZ.out, e1, e2⟩
      simp [results, Try.results5, asAddr, hlv, Act.put]
      try rfl
end Go.Proofs.Ytcafpaahbbachaa
/-
  Names in order (no Go): what l4Put makes of a row of names, and that rows in order with the same names are the same.
-/
namespace Go.Proofs.Ytcafpaahbbachaa
open Go.RowKit Go.Lib Go.Maps
set_option linter.unusedSimpArgs false
set_option linter.unusedVariables false

/-- One name ahead of another, byte by byte. -/
def blt (a b : ByteArray) : Bool := Op.bytesLess a.toList b.toList
theorem blt_iff (a b : ByteArray) : blt a b = true ↔ a.data.toList < b.data.toList := by
  unfold blt; rw [bytesLess_eq, ByteArray.toList_eq, ByteArray.toList_eq]; simp
theorem blt_irrefl (a : ByteArray) : blt a a = false := by
  cases h : blt a a with
  | false => rfl
  | true => exact absurd ((blt_iff a a).1 h) (List.lt_irrefl _)
theorem blt_trans {a b c : ByteArray} (h : blt a b = true) (g : blt b c = true) : blt a c = true := (blt_iff a c).2 (List.lt_trans ((blt_iff a b).1 h) ((blt_iff b c).1 g))
theorem ba_ext {a b : ByteArray} (h : a.data.toList = b.data.toList) : a = b := ByteArray.ext (Array.toList_inj.1 h)
theorem blt_total {a b : ByteArray} (h : blt a b = false) (hne : a ≠ b) : blt b a = true := by
  rw [blt_iff]
  have h1 : ¬ a.data.toList < b.data.toList := fun hh => by rw [(blt_iff a b).2 hh] at h; cases h
  have h2 : b.data.toList ≤ a.data.toList := List.not_lt.1 h1
  rcases List.le_iff_lt_or_eq.1 h2 with h3 | h3
  · exact h3
  · exact absurd (ba_ext h3).symm hne
/-- In order, no two alike. -/
def Asc (l : List ByteArray) : Prop := l.Pairwise (fun a b => blt a b = true)
theorem Asc.nodup {l : List ByteArray} (h : Asc l) : l.Nodup := List.Pairwise.imp (fun {a b} hab e => by subst e; rw [blt_irrefl] at hab; cases hab) h
theorem asc_ext {l m : List ByteArray} (hl : Asc l) (hm : Asc m) (h : ∀ b, b ∈ l ↔ b ∈ m) : l = m :=
  List.Perm.eq_of_pairwise (le := fun a b => blt a b = true) (fun a b _ _ h1 h2 => by have := blt_trans h1 h2; rw [blt_irrefl] at this; cases this) hl hm ((List.perm_ext_iff_of_nodup hl.nodup hm.nodup).2 h)
/-- What l4Put makes of what is left of a row. -/
def putR (s : ByteArray) : Bool → List ByteArray → List ByteArray
  | d, [] => if d = true then [] else [s]
  | true, x :: r => if x = s then putR s true r else x :: putR s true r
  | false, x :: r => if blt x s = true then (if x = s then putR s false r else x :: putR s false r) else s :: (if x = s then putR s true r else x :: putR s true r)
theorem putR_true (s : ByteArray) : ∀ (l : List ByteArray) (b : ByteArray), b ∈ putR s true l ↔ b ∈ l ∧ b ≠ s
  | [], b => by simp [putR]
  | x :: r, b => by
    have ih := putR_true s r b
    rw [putR]
    by_cases hx : x = s
    · rw [if_pos hx, ih]
      constructor
      · rintro ⟨h1, h2⟩; exact ⟨List.mem_cons_of_mem _ h1, h2⟩
      · rintro ⟨h1, h2⟩
        rcases List.mem_cons.1 h1 with h1 | h1
        · exact absurd (h1.trans hx) h2
        · exact ⟨h1, h2⟩
    · rw [if_neg hx, List.mem_cons, ih, List.mem_cons]
      constructor
      · rintro (h | ⟨h1, h2⟩)
        · exact ⟨.inl h, by rw [h]; exact hx⟩
        · exact ⟨.inr h1, h2⟩
      · rintro ⟨h1 | h1, h2⟩
        · exact .inl h1
        · exact .inr ⟨h1, h2⟩
theorem asc_true (s : ByteArray) : ∀ (l : List ByteArray), Asc l → Asc (putR s true l)
  | [], _ => by simp [putR, Asc]
  | x :: r, h => by
    obtain ⟨h1, h2⟩ := List.pairwise_cons.1 h
    have ih := asc_true s r h2
    rw [putR]
    by_cases hx : x = s
    · rw [if_pos hx]; exact ih
    · rw [if_neg hx]; exact List.pairwise_cons.2 ⟨fun b hb => h1 b ((putR_true s r b).1 hb).1, ih⟩
theorem asc_put (s : ByteArray) : ∀ (l : List ByteArray), Asc l → Asc (putR s false l) ∧ ∀ b, b ∈ putR s false l ↔ (b = s ∨ b ∈ l)
  | [], _ => by simp [putR, Asc]
  | x :: r, h => by
    obtain ⟨h1, h2⟩ := List.pairwise_cons.1 h
    obtain ⟨i1, i2⟩ := asc_put s r h2
    rw [putR]
    cases hb : blt x s with
    | true =>
      have hx : ¬ x = s := fun e => by subst e; rw [blt_irrefl] at hb; cases hb
      rw [if_pos rfl, if_neg hx]
      refine ⟨List.pairwise_cons.2 ⟨fun b hbm => ?_, i1⟩, fun b => ?_⟩
      · rcases (i2 b).1 hbm with e | e
        · subst e; exact hb
        · exact h1 b e
      · rw [List.mem_cons, i2 b, List.mem_cons]
        constructor
        · rintro (e | e | e) <;> simp [e]
        · rintro (e | e | e) <;> simp [e]
    | false =>
      rw [if_neg (by simp)]
      by_cases hx : x = s
      · subst hx
        rw [if_pos rfl]
        refine ⟨List.pairwise_cons.2 ⟨fun b hbm => h1 b ((putR_true x r b).1 hbm).1, asc_true x r h2⟩, fun b => ?_⟩
        rw [List.mem_cons, putR_true, List.mem_cons]
        constructor
        · rintro (e | ⟨e, _⟩)
          · exact .inl e
          · exact .inr (.inr e)
        · rintro (e | e | e)
          · exact .inl e
          · exact .inl e
          · by_cases hbx : b = x
            · exact .inl hbx
            · exact .inr ⟨e, hbx⟩
      · have hsx := blt_total hb hx
        rw [if_neg hx]
        refine ⟨List.pairwise_cons.2 ⟨fun b hbm => ?_, List.pairwise_cons.2 ⟨fun b hbm => h1 b ((putR_true s r b).1 hbm).1, asc_true s r h2⟩⟩, fun b => ?_⟩
        · rcases List.mem_cons.1 hbm with e | e
          · rw [e]; exact hsx
          · exact blt_trans hsx (h1 b ((putR_true s r b).1 e).1)
        · rw [List.mem_cons, List.mem_cons, putR_true, List.mem_cons]
          constructor
          · rintro (e | e | ⟨e, _⟩)
            · exact .inl e
            · exact .inr (.inl e)
            · exact .inr (.inr e)
          · rintro (e | e | e)
            · exact .inl e
            · exact .inr (.inl e)
            · by_cases hbs : b = s
              · exact .inl hbs
              · exact .inr (.inr ⟨e, hbs⟩)
/-- How long a row gets. -/
theorem putR_len (s : ByteArray) : ∀ (d : Bool) (l : List ByteArray), (putR s d l).length ≤ l.length + 1
  | true, [] => by simp [putR]
  | false, [] => by simp [putR]
  | true, x :: r => by
    have := putR_len s true r
    rw [putR]; split <;> simp only [List.length_cons] <;> omega
  | false, x :: r => by
    have h1 := putR_len s false r
    have h2 : (putR s true r).length ≤ r.length := by
      clear h1
      induction r with
      | nil => simp [putR]
      | cons y r ih => rw [putR]; split <;> simp only [List.length_cons] <;> omega
    rw [putR]; split <;> split <;> simp only [List.length_cons] <;> omega
/-- The names of statements of a kind, behind those that came. -/
def nmS (k : Int) : SF → List ByteArray → List ByteArray
  | .nil, out => out
  | .node _ _ h l r, out => nmS k r (nmS k l (if h.k = k then putR h.s false out else out))
/-- The names of expressions of a kind. -/
def nmE (k : Int) : EF → List ByteArray → List ByteArray
  | .nil, out => out
  | .node _ _ h l r, out => nmE k r (nmE k l (if h.k = k then putR h.s false out else out))
def nmX (k : Int) (x : X) (out : List ByteArray) : List ByteArray := nmE k x.l (if x.h.k = k then putR x.h.s false out else out)
def nmA (k : Int) : SF → List ByteArray → List ByteArray
  | .nil, out => out
  | .node _ _ h l r, out => nmA k r (nmA k l (nmX k h.x4 (nmX k h.x3 (nmX k h.x2 (nmX k h.x1 out)))))
end Go.Proofs.Ytcafpaahbbachaa
/-
  The contracts of the specification's l4Put, l4Names, VarsOf, LoopVars: names in order.
-/
namespace Go.Proofs.Ytcafpaahbbachaa
open Go.RowKit Go.Lib
set_option linter.unusedSimpArgs false
set_option linter.unusedVariables false

/-- A slice that holds these names, at lo or above. -/
def TV (w : World) (lo : Nat) (v : Value) (ns : List ByteArray) : Prop :=
  ∃ ao cap, v = .slice ao ns.length cap ∧ (ns = [] ∨ ∃ g off, ao = some ⟨g, off, Option.none⟩ ∧ lo ≤ g ∧ g < w.heap.size ∧ ∀ i t, ns[i]? = some t → w.cell? ⟨g, off + i, Option.none⟩ = some (.string t))
theorem TV.same {w w' : World} {lo lo' : Nat} {v : Value} {ns : List ByteArray} (hlo : lo' ≤ lo) (h : TV w lo v ns) (hk : Keeps lo w w') (hz : w.heap.size ≤ w'.heap.size) : TV w' lo' v ns := by
  obtain ⟨ao, cap, hv, h⟩ := h
  refine ⟨ao, cap, hv, ?_⟩
  rcases h with h | ⟨g, off, h1, h0, h2, h3⟩
  · exact .inl h
  · exact .inr ⟨g, off, h1, Nat.le_trans hlo h0, Nat.lt_of_lt_of_le h2 hz, fun i t hi => hk _ _ h0 (h3 i t hi)⟩
theorem TV.later {w w' : World} {lo : Nat} {v : Value} {ns : List ByteArray} (h : TV w lo v ns) (hb : Below w.heap.size w w') : TV w' lo v ns := h.same (Nat.le_refl _) (Keeps.later hb) hb.size
theorem TV.low {w : World} {lo : Nat} {v : Value} {ns : List ByteArray} (h : TV w lo v ns) : TV w 0 v ns := h.same (Nat.zero_le _) (Keeps.refl _ _) (Nat.le_refl _)
theorem TV.shape {w : World} {lo : Nat} {v : Value} {ns : List ByteArray} (h : TV w lo v ns) : ∃ a c, v = .slice a ns.length c := by obtain ⟨a, c, h1, _⟩ := h; exact ⟨a, c, h1⟩
theorem TV.of {w : World} {B : Nat} {v : Value} {ns : List ByteArray} (h : w.ownsRow B 9 1 v ns.length (ns.map Value.string)) : TV w B v ns := by
  rcases h.2 with ⟨h0, h1⟩ | ⟨g, cap, cur, h1, h2, h3, h4⟩
  · exact ⟨Option.none, 0, by rw [h1]; exact h0, .inl (List.length_eq_zero_iff.1 h1)⟩
  · refine ⟨_, cap, h1, .inr ⟨g, 0, rfl, h2, lt_heap h3, fun i t hi => ?_⟩⟩
    have hc := h.cells (g := g) (by rw [h1]; rfl) i (.string t) (by rw [List.getElem?_map, hi]; rfl)
    have e : (⟨g, 0, Option.none⟩ : Addr).add i = ⟨g, i, Option.none⟩ := by simp [Addr.add]; omega
    rw [e] at hc
    rw [Nat.zero_add]; exact hc
theorem infoStr : (Try.prog.info? 9).map (fun i => (i.zero, i.size, i.bytes)) = some (some (.string ⟨#[]⟩), 1, 16) := by kernel_rfl
theorem newT (w : World) (u : Value) (t : TypeId) : ∀ j x, [u][j]? = some x → (w.alloc (.cells #[u] t)).cell? ((⟨w.heap.size, 0, Option.none⟩ : Addr).add j) = some x := new1 w u t
/-- One name more. -/
theorem snocT {w w5 w6 : World} {os : List ByteArray} {t v' : Value} {x : ByteArray} {o : Obj} (hown : w5.ownsRow w.heap.size 9 1 t os.length (os.map Value.string)) (hb : Below w.heap.size w w5) (hg : (w5.alloc o).grownBy w6 t.ownBlock)
    (h : w6.ownsRow w.heap.size 9 1 v' (os.length + 1) (os.map Value.string ++ [.string x])) : w6.ownsRow w.heap.size 9 1 v' (os ++ [x]).length ((os ++ [x]).map Value.string) ∧ Below w.heap.size w w6 :=
  ⟨by rw [List.length_append, List.map_append]; exact h, (hb.alloc hb.size o).grown hg (by have := hb.size; simp; omega) (fun k hk => (hown.lt k hk).1)⟩
theorem ownShape {w : World} {B sz n : Nat} {e : TypeId} {v : Value} {xs : List Value} (h : w.ownsRow B e sz v n xs) : ∃ a c, v = .slice a n c := by
  rcases h.2 with ⟨h1, h0⟩ | ⟨g, cap, cur, h1, _⟩
  · exact ⟨_, _, by rw [h0]; exact h1⟩
  · exact ⟨_, _, h1⟩
theorem putR_x {s x : ByteArray} {r : List ByteArray} (d : Bool) (hd : d = true ∨ blt x s = true) (hx : ¬ x = s) : putR s d (x :: r) = x :: putR s d r := by
  cases d with
  | true => rw [putR, if_neg hx]
  | false => rcases hd with h | h
             · cases h
             · rw [putR, if_pos h, if_neg hx]
theorem putR_same {s : ByteArray} {r : List ByteArray} : putR s true (s :: r) = putR s true r := by rw [putR, if_pos rfl]
theorem putR_s {s x : ByteArray} {r : List ByteArray} (h : blt x s = false) : putR s false (x :: r) = s :: putR s true (x :: r) := by
  simp only [putR, h]; simp
set_option maxHeartbeats 2000000 in
set_option maxRecDepth 100000 in
theorem l4Put_is (ns : List ByteArray) (hn : ns.length ≤ 10000000) (s : ByteArray) (v : Value) (w : World) (hv : TV w 0 v ns) :
    Calls Try.prog 42 #[v, .string s] w fun e w' => ∃ v', e = .returned v' ∧ TV w' w.heap.size v' (putR s false ns) ∧ Below w.heap.size w w' := by
  obtain ⟨i0, hi0, hz0, hz1, hz2⟩ := info_parts infoStr
  obtain ⟨ao, cap, rfl, hr⟩ := hv
  have Hr := Lib.hid hr
  clear hr
  have hnI : (ns.length : Int) ≤ 10000000 := by omega
  go_enter Try.func42, Try.ntmps42
  go_wp2
  go_loopw [5, 6, 7] (fun out d i wr => ∃ (k : Nat) (dn : Bool) (os : List ByteArray), k ≤ ns.length ∧ i = .int .i64 k ∧ d = .bool dn ∧ Hid (os ++ putR s dn (ns.drop k) = putR s false ns ∧ os.length ≤ k + 1 ∧ (dn = false → os.length ≤ k)) ∧ wr.ownsRow w.heap.size 9 1 out os.length (os.map Value.string) ∧ Below w.heap.size w wr) (fun _ _ i _ => ns.length - (RowKit.intOf i).toNat)
  case atStart =>
    exact ⟨0, false, [], by omega, rfl, rfl, ⟨by simp, by simp, fun _ => by simp⟩, ⟨rfl, .inr ⟨w.heap.size, 0, #[], rfl, Nat.le_refl _, (by show (w.heap.push _)[w.heap.size]? = _; simp), Nat.le_refl _, (by unfold maxLen; omega), rfl, rfl⟩⟩, alloc_below _ _⟩
  case round =>
    obtain ⟨k, dn, os, hk, rfl, rfl, hg, hown, hbr⟩ := hrel
    obtain ⟨g1, g2, g3⟩ := hg.out
    obtain ⟨oa, oc, rfl⟩ := ownShape hown
    have hol : (os.length : Int) ≤ 10000001 := by omega
    by_cases hlt : k < ns.length
    · have hltI : (k : Int) < (ns.length : Int) := by omega
      obtain ⟨x, hx⟩ : ∃ x, ns[k]? = some x := ⟨ns[k], List.getElem?_eq_getElem hlt⟩
      rcases Hr.out with hr | ⟨g, off, rfl, _, gl, hc⟩
      · subst hr; simp at hlt
      have hsz := hbr.size
      have AW := Lib.hid (hc k x hx)
      have A0 := (hbr.cell (p := ⟨g, off + k, Option.none⟩) gl).trans AW.out
      have hd : ns.drop k = x :: ns.drop (k + 1) := by rw [List.drop_eq_getElem_cons hlt]; congr 1; rw [List.getElem?_eq_getElem hlt] at hx; injection hx
      rw [hd] at g1
      clear hc hx Hr hd hg
      by_cases hdb : dn = true ∨ blt x s = true
      · have G3 : Hid (dn = false → os.length ≤ k) := g3
        by_cases he : x = s
        · have hdn : dn = true := hdb.resolve_right (fun h => by rw [he, blt_irrefl] at h; cases h)
          subst hdn
          subst he
          rw [putR_same] at g1
          have G := Lib.hid (And.intro g1 g2)
          clear g1 g2 g3 hdb
          go_wp2
          go_roundw
          case rel => exact ⟨k + 1, true, os, by omega, by go_num, rfl, ⟨G.out.1, by have := G.out.2; omega, fun h => by cases h⟩, hown, hbr⟩
          case measure => simp [RowKit.intOf]; omega
        · rw [putR_x dn hdb he] at g1
          have G := Lib.hid (And.intro g1 g2)
          have hne := str_ne he
          have hcs : dn = true ∨ (dn = false ∧ Op.bytesLess x.toList s.toList = true) := by
            cases dn with
            | true => exact .inl rfl
            | false => exact .inr ⟨rfl, hdb.resolve_left (by simp)⟩
          clear g1 g2 g3 hdb he
          rcases hcs with rfl | ⟨rfl, hls⟩
          · go_wp2_with (at_builtin; refine wpList_append_own _ rfl _ _ 44 rfl w.heap.size 9 i0 _ 1 16 Try.underlying44 hi0 hz0 hz1 hz2 rfl (by decide) _ _ _ rfl (hown.alloc _) ⟨wr.heap.size, 0, Option.none⟩ 1 1 [.string x] rfl rfl (newT _ _ _) ?cb2 ?cb3 ?cb4 ?cb5 ?_)
            case cb2 => first | rfl | (intro x hx; simp only [List.mem_cons, List.not_mem_nil, or_false] at hx; subst hx; rfl)
            case cb3 => unfold maxLen; omega
            case cb4 => omega
            case cb5 => first | omega | (simp; omega)
            intro v' w6 hown' hgrow _
            obtain ⟨n1, n2⟩ := snocT hown hbr hgrow hown'
            clear hown' hgrow hown hbr A0
            go_wp2
            go_roundw
            case rel => exact ⟨k + 1, true, os ++ [x], by omega, by go_num, rfl, ⟨by rw [List.append_assoc]; exact G.out.1, by have := G.out.2; simp; omega, fun h => by cases h⟩, n1, n2⟩
            case measure => simp [RowKit.intOf]; omega
          · go_wp2_with (at_builtin; refine wpList_append_own _ rfl _ _ 44 rfl w.heap.size 9 i0 _ 1 16 Try.underlying44 hi0 hz0 hz1 hz2 rfl (by decide) _ _ _ rfl (hown.alloc _) ⟨wr.heap.size, 0, Option.none⟩ 1 1 [.string x] rfl rfl (newT _ _ _) ?cc2 ?cc3 ?cc4 ?cc5 ?_)
            case cc2 => first | rfl | (intro x hx; simp only [List.mem_cons, List.not_mem_nil, or_false] at hx; subst hx; rfl)
            case cc3 => unfold maxLen; omega
            case cc4 => omega
            case cc5 => first | omega | (simp; omega)
            intro v' w6 hown' hgrow _
            obtain ⟨n1, n2⟩ := snocT hown hbr hgrow hown'
            clear hown' hgrow hown hbr A0
            go_wp2
            go_roundw
            case rel => exact ⟨k + 1, false, os ++ [x], by omega, by go_num, rfl, ⟨by rw [List.append_assoc]; exact G.out.1, by have := G.out.2; simp; omega, fun _ => by have := G3.out (by simp); simp; omega⟩, n1, n2⟩
            case measure => simp [RowKit.intOf]; omega
      · have hdn : dn = false := by cases dn with | false => rfl | true => exact absurd (.inl rfl) hdb
        subst hdn
        have hbl : blt x s = false := by cases h : blt x s with | false => rfl | true => exact absurd (.inr h) hdb
        have hls : Op.bytesLess x.toList s.toList = false := hbl
        rw [putR_s hbl] at g1
        have g4 := g3 rfl
        clear hdb hbl g3
        by_cases he : x = s
        · subst he
          rw [putR_same] at g1
          have G := Lib.hid (And.intro g1 g4)
          clear g1 g2 g4
          go_wp2_with (at_builtin; refine wpList_append_own _ rfl _ _ 44 rfl w.heap.size 9 i0 _ 1 16 Try.underlying44 hi0 hz0 hz1 hz2 rfl (by decide) _ _ _ rfl (hown.alloc _) ⟨wr.heap.size, 0, Option.none⟩ 1 1 [.string x] rfl rfl (newT _ _ _) ?ce2 ?ce3 ?ce4 ?ce5 ?_)
          case ce2 => first | rfl | (intro x hx; simp only [List.mem_cons, List.not_mem_nil, or_false] at hx; subst hx; rfl)
          case ce3 => unfold maxLen; omega
          case ce4 => omega
          case ce5 => first | omega | (simp; omega)
          intro v' w6 hown' hgrow _
          obtain ⟨n1, n2⟩ := snocT hown hbr hgrow hown'
          have A6 := (n2.cell (p := ⟨g, off + k, Option.none⟩) gl).trans AW.out
          clear hown' hgrow hown hbr A0
          go_wp2
          go_roundw
          case rel => exact ⟨k + 1, true, os ++ [x], by omega, by go_num, rfl, ⟨by rw [List.append_assoc]; exact G.out.1, by have := G.out.2; simp; omega, fun h => by cases h⟩, n1, n2⟩
          case measure => simp [RowKit.intOf]; omega
        · have hne := str_ne he
          rw [putR_x true (.inl rfl) he] at g1
          have G := Lib.hid (And.intro g1 g4)
          clear g1 g2 he g4
          go_wp2_with (at_builtin; refine wpList_append_own _ rfl _ _ 44 rfl w.heap.size 9 i0 _ 1 16 Try.underlying44 hi0 hz0 hz1 hz2 rfl (by decide) _ _ _ rfl (hown.alloc _) ⟨wr.heap.size, 0, Option.none⟩ 1 1 [.string s] rfl rfl (newT _ _ _) ?cg2 ?cg3 ?cg4 ?cg5 ?_)
          case cg2 => first | rfl | (intro x hx; simp only [List.mem_cons, List.not_mem_nil, or_false] at hx; subst hx; rfl)
          case cg3 => unfold maxLen; omega
          case cg4 => omega
          case cg5 => first | omega | (simp; omega)
          intro v' w6 hown' hgrow _
          obtain ⟨n1, n2⟩ := snocT hown hbr hgrow hown'
          have A6 := (n2.cell (p := ⟨g, off + k, Option.none⟩) gl).trans AW.out
          have hs6 := n2.size
          obtain ⟨va, vc, rfl⟩ := ownShape n1
          have hol6 : ((os ++ [s]).length : Int) ≤ 10000002 := by simp; omega
          clear hown' hgrow hown hbr A0
          go_wp2_with (at_builtin; refine wpList_append_own _ rfl _ _ 44 rfl w.heap.size 9 i0 _ 1 16 Try.underlying44 hi0 hz0 hz1 hz2 rfl (by decide) _ _ _ rfl (n1.alloc _) ⟨w6.heap.size, 0, Option.none⟩ 1 1 [.string x] rfl rfl (newT _ _ _) ?cd2 ?cd3 ?cd4 ?cd5 ?_)
          case cd2 => first | rfl | (intro x hx; simp only [List.mem_cons, List.not_mem_nil, or_false] at hx; subst hx; rfl)
          case cd3 => unfold maxLen; omega
          case cd4 => omega
          case cd5 => first | omega | (simp; omega)
          intro v'' w7 hown'' hgrow2 _
          obtain ⟨m1, m2⟩ := snocT n1 n2 (o := .cells #[.string x] 9) (by simpa using hgrow2) (show w7.ownsRow w.heap.size 9 1 v'' ((os ++ [s]).length + 1) ((os ++ [s]).map Value.string ++ [.string x]) by simpa using hown'')
          clear hown'' hgrow2 n1 n2 A6
          go_wp2
          go_roundw
          case rel => exact ⟨k + 1, true, os ++ [s] ++ [x], by omega, by go_num, rfl, ⟨by rw [List.append_assoc, List.append_assoc]; exact G.out.1, by have := G.out.2; simp; omega, fun h => by cases h⟩, m1, m2⟩
          case measure => simp [RowKit.intOf]; omega
    · have hkk : ns.drop k = [] := List.drop_of_length_le (by omega)
      rw [hkk] at g1
      cases dn with
      | true =>
        have G := Lib.hid (show os = putR s false ns by simpa [putR] using g1)
        clear g1 hg
        go_wp2
        go_ret
        exact ⟨_, rfl, by rw [← G.out]; exact TV.of hown, hbr⟩
      | false =>
        have G := Lib.hid (show os ++ [s] = putR s false ns by simpa [putR] using g1)
        have hsz := hbr.size
        clear g1 hg
        go_wp2_with (at_builtin; refine wpList_append_own _ rfl _ _ 44 rfl w.heap.size 9 i0 _ 1 16 Try.underlying44 hi0 hz0 hz1 hz2 rfl (by decide) _ _ _ rfl (hown.alloc _) ⟨wr.heap.size, 0, Option.none⟩ 1 1 [.string s] rfl rfl (newT _ _ _) ?cf2 ?cf3 ?cf4 ?cf5 ?_)
        case cf2 => first | rfl | (intro x hx; simp only [List.mem_cons, List.not_mem_nil, or_false] at hx; subst hx; rfl)
        case cf3 => unfold maxLen; omega
        case cf4 => omega
        case cf5 => first | omega | (simp; omega)
        intro v' w6 hown' hgrow _
        obtain ⟨n1, n2⟩ := snocT hown hbr hgrow hown'
        clear hown' hgrow hown hbr
        go_wp2
        go_ret
        exact ⟨_, rfl, by rw [← G.out]; exact TV.of n1, n2⟩
end Go.Proofs.Ytcafpaahbbachaa
/-
  The library's contracts on maps.Keys, slices.Sorted and stringslite.Clone, laid at this dump.
-/
namespace Go.Proofs
open Go.RowKit Go.Maps Go.Sort Go.Shelf
def Try.laysM316_ren : Go.Shelf.Ren := ⟨fun | 316 => 58 | n => n, fun | 9 => 9 | 3 => 3 | 4 => 4 | 37 => 90 | 0 => 0 | 127 => 106 | 5 => 5 | n => n, fun | n => n⟩
theorem Try.laysM316 : Go.Proofs.LaysM.n316 Try.prog Try.laysM316_ren := {
  mixed := by kernel_rfl
  f316 := Try.func58.trans (congrArg some (by kernel_rfl))
  t0 := Try.underlying0
  a0 := Try.isAgg0
  z0 := Try.sizeOf0
  v0 := Try.zeroValue0
  t3 := Try.underlying3
  a3 := Try.isAgg3
  z3 := Try.sizeOf3
  v3 := Try.zeroValue3
  t4 := Try.underlying4
  a4 := Try.isAgg4
  z4 := Try.sizeOf4
  v4 := Try.zeroValue4
  t9 := Try.underlying9
  a9 := Try.isAgg9
  z9 := Try.sizeOf9
  v9 := Try.zeroValue9
  t37 := Try.underlying90
  a37 := Try.isAgg90
  z37 := Try.sizeOf90
  v37 := Try.zeroValue90
  t127 := Try.underlying106
  a127 := Try.isAgg106
  z127 := Try.sizeOf106
  v127 := Try.zeroValue106
  t5 := Try.underlying5
  a5 := Try.isAgg5
  z5 := Try.sizeOf5
  v5 := Try.zeroValue5
  i0 := by kernel_rfl
  i3 := by kernel_rfl
  i4 := by kernel_rfl
  i5 := by kernel_rfl
  i9 := by kernel_rfl
  i37 := by kernel_rfl
  i127 := by kernel_rfl }
def Try.keys52_ren : Go.Shelf.Ren := ⟨fun | 7 => 52 | 10 => 57 | n => n, fun | 23 => 84 | 26 => 9 | 3 => 3 | 28 => 96 | 0 => 0 | 27 => 95 | 33 => 101 | 4 => 4 | n => n, fun | n => n⟩
theorem Try.keys52 : Go.Proofs.SlLaysZ.n7 Try.prog Try.keys52_ren := {
  mixed := by kernel_rfl
  f7 := ⟨Try.f52.name, by decide, Try.func52.trans (congrArg some (by kernel_rfl))⟩
  f10 := ⟨Try.f57.name, by decide, Try.func57.trans (congrArg some (by kernel_rfl))⟩
  t0 := Try.underlying0
  a0 := Try.isAgg0
  z0 := Try.sizeOf0
  v0 := Try.zeroValue0
  t4 := Try.underlying4
  a4 := Try.isAgg4
  z4 := Try.sizeOf4
  v4 := Try.zeroValue4
  t23 := Try.underlying84
  a23 := Try.isAgg84
  z23 := Try.sizeOf84
  v23 := Try.zeroValue84
  t26 := Try.underlying9
  a26 := Try.isAgg9
  z26 := Try.sizeOf9
  v26 := Try.zeroValue9
  t27 := Try.underlying95
  a27 := Try.isAgg95
  z27 := Try.sizeOf95
  v27 := Try.zeroValue95
  t28 := Try.underlying96
  a28 := Try.isAgg96
  z28 := Try.sizeOf96
  v28 := Try.zeroValue96
  t33 := Try.underlying101
  a33 := Try.isAgg101
  z33 := Try.sizeOf101
  v33 := Try.zeroValue101 }
def Try.sorted51_ren : Go.Shelf.Ren := ⟨fun | 6 => 51 | 8 => 55 | 9 => 56 | 11 => 59 | 13 => 61 | 12 => 60 | 23 => 71 | 24 => 72 | 14 => 62 | 15 => 63 | 16 => 64 | 17 => 65 | 18 => 66 | 19 => 67 | 20 => 68 | 21 => 69 | 22 => 70 | 25 => 73 | 26 => 74 | 27 => 75 | 28 => 76 | 29 => 77 | 30 => 78 | 31 => 79 | n => n, fun | 26 => 9 | 28 => 96 | 24 => 44 | 0 => 0 | 3 => 3 | 37 => 105 | 48 => 117 | 50 => 119 | 4 => 4 | 40 => 109 | 39 => 108 | 45 => 114 | 5 => 5 | 9 => 9 | 51 => 120 | 55 => 124 | 57 => 126 | 58 => 127 | 33 => 101 | n => n, fun | n => n⟩
theorem Try.sorted51 : Go.Proofs.SlLaysZ.n6 Try.prog Try.sorted51_ren := {
  mixed := by kernel_rfl
  f6 := ⟨Try.f51.name, by decide, Try.func51.trans (congrArg some (by kernel_rfl))⟩
  f8 := ⟨Try.f55.name, by decide, Try.func55.trans (congrArg some (by kernel_rfl))⟩
  f11 := ⟨Try.f59.name, by decide, Try.func59.trans (congrArg some (by kernel_rfl))⟩
  t0 := Try.underlying0
  a0 := Try.isAgg0
  z0 := Try.sizeOf0
  v0 := Try.zeroValue0
  t24 := Try.underlying44
  a24 := Try.isAgg44
  z24 := Try.sizeOf44
  v24 := Try.zeroValue44
  t26 := Try.underlying9
  a26 := Try.isAgg9
  z26 := Try.sizeOf9
  v26 := Try.zeroValue9
  t28 := Try.underlying96
  a28 := Try.isAgg96
  z28 := Try.sizeOf96
  v28 := Try.zeroValue96
  i26 := by kernel_rfl }
def Try.sort56_ren : Go.Shelf.Ren := ⟨fun | 6 => 56 | 8 => 61 | 9 => 60 | 19 => 71 | 20 => 72 | 21 => 62 | 22 => 63 | 23 => 64 | 24 => 65 | 25 => 66 | 26 => 67 | 27 => 68 | 28 => 69 | 29 => 70 | 36 => 73 | 31 => 74 | 32 => 75 | 37 => 76 | 38 => 77 | 39 => 78 | 41 => 79 | n => n, fun | 27 => 44 | 29 => 9 | 3 => 3 | 32 => 105 | 26 => 44 | 0 => 0 | 44 => 117 | 46 => 119 | 4 => 4 | 36 => 109 | 35 => 108 | 41 => 114 | 5 => 5 | 9 => 9 | 53 => 120 | 57 => 124 | 63 => 126 | 64 => 127 | n => n, fun | n => n⟩
theorem Try.sort56 : Go.Proofs.SlLaysM.n6 Try.prog Try.sort56_ren := {
  mixed := by kernel_rfl
  f6 := ⟨Try.f56.name, by decide, Try.func56.trans (congrArg some (by kernel_rfl))⟩
  f8 := Try.func61.trans (congrArg some (by kernel_rfl))
  f9 := ⟨Try.f60.name, by decide, Try.func60.trans (congrArg some (by kernel_rfl))⟩
  f19 := Try.func71.trans (congrArg some (by kernel_rfl))
  f20 := Try.func72.trans (congrArg some (by kernel_rfl))
  f21 := ⟨Try.f62.name, by decide, Try.func62.trans (congrArg some (by kernel_rfl))⟩
  f22 := ⟨Try.f63.name, by decide, Try.func63.trans (congrArg some (by kernel_rfl))⟩
  f23 := ⟨Try.f64.name, by decide, Try.func64.trans (congrArg some (by kernel_rfl))⟩
  f24 := ⟨Try.f65.name, by decide, Try.func65.trans (congrArg some (by kernel_rfl))⟩
  f25 := ⟨Try.f66.name, by decide, Try.func66.trans (congrArg some (by kernel_rfl))⟩
  f26 := ⟨Try.f67.name, by decide, Try.func67.trans (congrArg some (by kernel_rfl))⟩
  f27 := ⟨Try.f68.name, by decide, Try.func68.trans (congrArg some (by kernel_rfl))⟩
  f28 := ⟨Try.f69.name, by decide, Try.func69.trans (congrArg some (by kernel_rfl))⟩
  f29 := ⟨Try.f70.name, by decide, Try.func70.trans (congrArg some (by kernel_rfl))⟩
  f31 := Try.func74.trans (congrArg some (by kernel_rfl))
  f32 := Try.func75.trans (congrArg some (by kernel_rfl))
  f36 := ⟨Try.f73.name, by decide, Try.func73.trans (congrArg some (by kernel_rfl))⟩
  f37 := ⟨Try.f76.name, by decide, Try.func76.trans (congrArg some (by kernel_rfl))⟩
  f38 := ⟨Try.f77.name, by decide, Try.func77.trans (congrArg some (by kernel_rfl))⟩
  f39 := ⟨Try.f78.name, by decide, Try.func78.trans (congrArg some (by kernel_rfl))⟩
  f41 := ⟨Try.f79.name, by decide, Try.func79.trans (congrArg some (by kernel_rfl))⟩
  t0 := Try.underlying0
  a0 := Try.isAgg0
  z0 := Try.sizeOf0
  v0 := Try.zeroValue0
  t3 := Try.underlying3
  a3 := Try.isAgg3
  z3 := Try.sizeOf3
  v3 := Try.zeroValue3
  t4 := Try.underlying4
  a4 := Try.isAgg4
  z4 := Try.sizeOf4
  v4 := Try.zeroValue4
  t5 := Try.underlying5
  a5 := Try.isAgg5
  z5 := Try.sizeOf5
  v5 := Try.zeroValue5
  t9 := Try.underlying9
  a9 := Try.isAgg9
  z9 := Try.sizeOf9
  v9 := Try.zeroValue9
  t26 := Try.underlying44
  a26 := Try.isAgg44
  z26 := Try.sizeOf44
  v26 := Try.zeroValue44
  t27 := Try.underlying44
  a27 := Try.isAgg44
  z27 := Try.sizeOf44
  v27 := Try.zeroValue44
  t29 := Try.underlying9
  a29 := Try.isAgg9
  z29 := Try.sizeOf9
  v29 := Try.zeroValue9
  t32 := Try.underlying105
  a32 := Try.isAgg105
  z32 := Try.sizeOf105
  v32 := Try.zeroValue105
  t35 := Try.underlying108
  a35 := Try.isAgg108
  z35 := Try.sizeOf108
  v35 := Try.zeroValue108
  t36 := Try.underlying109
  a36 := Try.isAgg109
  z36 := Try.sizeOf109
  v36 := Try.zeroValue109
  t41 := Try.underlying114
  a41 := Try.isAgg114
  z41 := Try.sizeOf114
  v41 := Try.zeroValue114
  t44 := Try.underlying117
  a44 := Try.isAgg117
  z44 := Try.sizeOf117
  v44 := Try.zeroValue117
  t46 := Try.underlying119
  a46 := Try.isAgg119
  z46 := Try.sizeOf119
  v46 := Try.zeroValue119
  t53 := Try.underlying120
  a53 := Try.isAgg120
  z53 := Try.sizeOf120
  v53 := Try.zeroValue120
  t57 := Try.underlying124
  a57 := Try.isAgg124
  z57 := Try.sizeOf124
  v57 := Try.zeroValue124
  t63 := Try.underlying126
  a63 := Try.isAgg126
  z63 := Try.sizeOf126
  v63 := Try.zeroValue126
  t64 := Try.underlying127
  a64 := Try.isAgg127
  z64 := Try.sizeOf127
  v64 := Try.zeroValue127 }
theorem Try.sorts (m : Nat) : AnyZ.SortsIn Try.prog Try.sorted51_ren Fence.wide m :=
  ⟨fun blk off cap ss W hH hblk hsz => callsIn_wide.2 (AnyM.slices_Sort_string Try.sort56 blk off cap ss W hH hblk hsz),
   fun p cap W => callsIn_wide.2 (AnyM.slices_Sort_string_none Try.sort56 p cap W)⟩
theorem Try.maps_Keys (mb : Option Nat) (W : World) : Calls Try.prog 52 #[.map mb] W fun e w' => e = .returned (.func (.func 57) #[] #[.pointer (some ⟨W.heap.size, 0, none⟩)]) ∧ w' = W.alloc (.cells #[.map mb] 84) :=
  callsIn_wide.1 (AnyZ.keys_in Try.keys52 Fence.wide 5 trivial rfl mb W)
set_option maxHeartbeats 1000000 in
theorem Try.sorted_keys {H : Type} (b nn : Nat) (D0 : DataW H) (R : Value → Option (DataW H × List MemPlace)) (w : World) (hown : w.ownsMap Try.prog 9 R b nn D0) (hmax : Maps.size D0 ≤ maxLen) (hbytes : Maps.size D0 * 16 ≤ 140737488355328) :
    Calls Try.prog 51 #[.func (.func 57) #[] #[.pointer (some ⟨w.heap.size, 0, none⟩)]] (w.alloc (.cells #[.map (some b)] 84)) fun e w' => ∃ (v : Value) (ss : List (List UInt8)), e = .returned v ∧ ss.Perm (strKeys D0) ∧
      w'.ownsRow (w.alloc (.cells #[.map (some b)] 84)).heap.size 9 1 v ss.length ((ss.mergeSort (fun x y => decide (x ≤ y))).map encStr) ∧ (v = .slice none 0 0 ↔ ss = []) ∧ Below (w.alloc (.cells #[.map (some b)] 84)).heap.size (w.alloc (.cells #[.map (some b)] 84)) w' := by
  refine (callsIn_wide (n := 5)).1 ?_
  have hbl := hown.lt
  have hseq : SeqGives Fence.wide 2 Try.prog 57 #[.pointer (some ⟨w.heap.size, 0, none⟩)] encStr (fun ss => ss.Perm (strKeys D0)) (Maps.size D0) (w.alloc (.cells #[.map (some b)] 84)) :=
    AnyZ.keys_gives (ρ := Try.keys52_ren) { Try.keys52 with } Fence.wide _ trivial rfl (by omega) w.heap.size b nn D0 _ (by simp) (by simp) (by
      obtain ⟨es, clock, hb, Ft, hs, hD⟩ := hown
      exact ⟨es, clock, (Below.heap_alloc _ _ b hbl).trans hb, Ft, hs, hD⟩)
  exact AnyZ.sorted_in Try.sorted51 Fence.wide 5 trivial trivial trivial trivial rfl (by omega) (Try.sorts _) (enters_of Try.func56 (by kernel_rfl) rfl) 57 #[.pointer (some ⟨w.heap.size, 0, none⟩)] trivial (enters_of Try.func57 (by kernel_rfl) rfl) _ _ hmax hbytes _ hseq
theorem Try.clone (s : ByteArray) (w : World) (hlim : s.size ≤ 281474976710656) :
    Calls Try.prog 58 #[.string s] w fun e w' => e = .returned (.string s) ∧ Below w.heap.size w w' := Any.stringslite_Clone Try.laysM316 s w hlim
end Go.Proofs
/-
  The contract of the landed code's ascending: the names of a map, in order, in memory of their own.
-/
namespace Go.Proofs.Ytcafpaahbbachaa
open Go.RowKit Go.Lib Go.Maps Go.Sort
set_option linter.unusedSimpArgs false
set_option linter.unusedVariables false

set_option maxRecDepth 100000 in
theorem clone_is (s : ByteArray) (w : World) (hlim : s.size ≤ 10000000) :
    Calls Try.prog 53 #[.string s] w fun e w' => e = .returned (.string s) ∧ Below w.heap.size w w' := by
  have C := Lib.hid (Try.clone s w (by omega))
  go_enter Try.func53, Try.ntmps53
  go_wp2_with fail
  refine C.out.mono ?_
  rintro e w1 ⟨rfl, hb1⟩
  go_wp2
  go_ret
  exact ⟨rfl, hb1⟩
theorem own_same {w : World} {B n g cap j : Nat} {e : TypeId} {xs : List Value} {u : Value} (h : w.ownsRow B e 1 (.slice (some ⟨g, 0, Option.none⟩) n cap) n xs) (hj : xs[j]? = some u) : (w.setCell ⟨g, j, Option.none⟩ u).ownsRow B e 1 (.slice (some ⟨g, 0, Option.none⟩) n cap) n xs := by
  have e0 : xs.set j u = xs := by
    apply List.ext_getElem?
    intro i
    rw [List.getElem?_set]
    split
    · rename_i hij
      subst hij
      split
      · exact hj.symm
      · rename_i hlt; rw [List.getElem?_eq_none (by omega)]
    · rfl
  refine ⟨h.1, ?_⟩
  rcases h.2 with ⟨h0, _⟩ | ⟨g', cap', cur, h1, h2, h3, h4, h5, h6, h7⟩
  · cases h0
  · injection h1 with e1 e2 e3
    injection e1 with e1
    injection e1 with e1
    subst e1; subst e3
    exact .inr ⟨g, cap, cur.setIfInBounds j u, rfl, h2, Joins.block_setCell h3 u, h4, h5, by simpa using h6, by rw [Array.toList_setIfInBounds, List.take_set, h7, e0]⟩
theorem cell_own {w : World} {B n g cap : Nat} {e : TypeId} {xs : List Value} (h : w.ownsRow B e 1 (.slice (some ⟨g, 0, Option.none⟩) n cap) n xs) {j : Nat} {u : Value} (hu : xs[j]? = some u) : w.cell? ⟨g, j, Option.none⟩ = some u ∧ w.frozen? ⟨g, j, Option.none⟩ = false := by
  refine ⟨own_cell h hu, ?_⟩
  rcases h.2 with ⟨h0, _⟩ | ⟨g', cap', cur, h1, h2, h3, _⟩
  · cases h0
  · injection h1 with e1 e2 e3
    injection e1 with e1
    injection e1 with e1
    subst e1
    simp [World.frozen?, h3]
/-- The names of a map, in order. -/
def mapNames (ss : List (List UInt8)) : List ByteArray := (ss.mergeSort (fun x y => decide (x ≤ y))).map fun l => ⟨l.toArray⟩
theorem mapNames_len (ss : List (List UInt8)) : (mapNames ss).length = ss.length := by simp [mapNames]
set_option maxHeartbeats 2000000 in
set_option maxRecDepth 100000 in
theorem ascending_is (b nn : Nat) (D0 : DataW Unit) (w : World) (hown : w.ownsMap Try.prog 9 (plainElem Try.prog 3) b nn D0) (hsz : Maps.size D0 ≤ 10000000) (hsm : ∀ x ∈ strKeys D0, x.length ≤ 10000000) :
    Calls Try.prog 47 #[.map (some b)] w fun e w' => ∃ (v : Value) (ss : List (List UInt8)), e = .returned v ∧ ss.Perm (strKeys D0) ∧ w'.ownsRow w.heap.size 9 1 v (mapNames ss).length ((mapNames ss).map Value.string) ∧ Below w.heap.size w w' := by
  have K := Lib.hid (Try.maps_Keys (some b) w)
  have S := Lib.hid (Try.sorted_keys b nn D0 _ w hown (by unfold maxLen; omega) (by omega))
  have Hsm := Lib.hid hsm
  clear hown hsm
  go_enter Try.func47, Try.ntmps47
  go_wp2_with fail
  refine K.out.mono ?_
  rintro e w1 ⟨rfl, rfl⟩
  go_wp2_with fail
  refine S.out.mono ?_
  rintro e w2 ⟨v, ss, rfl, hp, hrow, _, hb⟩
  have hlen : ss.length ≤ 10000000 := by rw [hp.length_eq]; refine Nat.le_trans ?_ hsz; cases D0 <;> simp [strKeys, Maps.size]
  have hB : Below w.heap.size w w2 := below_alloc hb
  have hrow' : w2.ownsRow w.heap.size 9 1 v (mapNames ss).length ((mapNames ss).map Value.string) := by
    have e1 : (ss.mergeSort (fun x y => decide (x ≤ y))).map encStr = (mapNames ss).map Value.string := by simp [mapNames, encStr, Function.comp]
    rw [mapNames_len, ← e1]
    exact ownsRow_base_a hrow (by simp)
  have hsmall : ∀ s ∈ mapNames ss, s.size ≤ 10000000 := fun s hs => by
    simp only [mapNames, List.mem_map] at hs
    obtain ⟨l, hl, rfl⟩ := hs
    exact Hsm.out l (hp.subset ((List.mergeSort_perm ss _).subset hl))
  have hl2 : (mapNames ss).length ≤ 10000000 := by rw [mapNames_len]; exact hlen
  have HP := Lib.hid hp
  have HS := Lib.hid hsmall
  obtain ⟨ns, hns⟩ : ∃ ns, Hid (mapNames ss = ns) := ⟨_, rfl⟩
  rw [hns.out] at hrow' hl2
  have HS' : Hid (∀ s ∈ ns, s.size ≤ 10000000) := by rw [← hns.out]; exact HS
  obtain ⟨va, vc, rfl⟩ := ownShape hrow'
  clear hrow hb hp hlen hsmall K S Hsm HS
  go_wp2
  go_loopw [11] (fun i wr => ∃ k : Nat, k ≤ ns.length ∧ i = .int .i64 k ∧ wr.ownsRow w.heap.size 9 1 (.slice va ns.length vc) ns.length (ns.map Value.string) ∧ Below w.heap.size w wr) (fun i _ => ns.length - (RowKit.intOf i).toNat)
  case atStart => exact ⟨0, by omega, rfl, hrow', hB⟩
  case round =>
    obtain ⟨k, hk, rfl, ho, hbr⟩ := hrel
    clear hrow' hB
    by_cases hlt : k < ns.length
    · have hltI : (k : Int) < (ns.length : Int) := by omega
      obtain ⟨m, hm⟩ : ∃ m, ns.length = m + 1 := ⟨ns.length - 1, by omega⟩
      obtain ⟨g, hva⟩ : ∃ g, va = some ⟨g, 0, Option.none⟩ := by
        have ho' := ho
        rw [hm] at ho'
        obtain ⟨g, cap, e1, _⟩ := own_some ho'
        injection e1 with e1
        exact ⟨g, e1⟩
      subst hva
      obtain ⟨s, hs⟩ : ∃ s, ns[k]? = some s := ⟨ns[k], List.getElem?_eq_getElem hlt⟩
      have hs2 : (ns.map Value.string)[k]? = some (.string s) := by rw [List.getElem?_map, hs]; rfl
      obtain ⟨c0, f0⟩ := cell_own ho hs2
      have hsl := HS'.out s (List.mem_of_getElem? hs)
      have Hs := Lib.hid hs2
      clear hs hs2 hm
      go_wp2_with fail
      refine (clone_is s _ hsl).mono ?_
      rintro e w3 ⟨rfl, hb3⟩
      have ho3 := ownB ho hb3
      have hbr3 := hbr.trans (hb3.mono hbr.size)
      obtain ⟨c3, f3⟩ := cell_own ho3 Hs.out
      have n1 := own_same ho3 Hs.out
      have hgB : w.heap.size ≤ g := (ho3.lt g rfl).1
      have n2 := hbr3.setCell (p := ⟨g, k, Option.none⟩) hgB (.string s)
      clear ho ho3 hbr hbr3 hb3 c0 f0
      go_wp2
      go_roundw
      case rel => exact ⟨k + 1, by omega, by go_num, n1, n2⟩
      case measure => simp [RowKit.intOf]; omega
    · go_wp2
      go_ret
      exact ⟨_, ss, rfl, HP.out, by rw [hns.out]; exact ho, hbr⟩
end Go.Proofs.Ytcafpaahbbachaa
