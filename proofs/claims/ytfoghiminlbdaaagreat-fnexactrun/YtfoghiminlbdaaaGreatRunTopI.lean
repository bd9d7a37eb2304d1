/-
  Run of the landed code.
-/
import Derived.Test.YtfoghiminlbdaaaGreatZp
import Derived.Test.YtfoghiminlbdaaaGreatP24ofRun
import Derived.Test.YtfoghiminlbdaaaGreatP23ofRun
import Derived.Test.YtfoghiminlbdaaaGreatP06ofRun
namespace Go.Proofs.YtfoghiminlbdaaaGreat
open Go.RowKit Go.Lib
set_option linter.unusedSimpArgs false
set_option linter.unusedVariables false
theorem Owns.lower {w : World} {B B' : Nat} {rs : List VR} (h : Owns w B rs) (hb : B' ≤ B) : Owns w B' rs := ⟨fun r hr => own_lower (h.own r hr) hb, h.apart⟩
theorem StoO.lower {w : World} {B B' : Nat} {va : Value} {rs : List VR} {v o : VR} (h : StoO w B va rs v o) (hb : B' ≤ B) : StoO w B' va rs v o := ⟨own_lower h.out hb, h.own.lower hb⟩
theorem StoO.put {w W : World} {B N : Nat} {ua : Value} {rs : List VR} {v o : VR} {x0 x1 x2 x3 : Value} {en : Int} (h : StoO w B ua rs v o) (hN : w.heap[N]? = some (.cells #[x0, x1, x2, x3] 33 (0, 0))) (hBN : B ≤ N) (hB : B ≤ w.heap.size)
    (hW : w.setCells N 0 [ua, v.1, o.1, .int .i64 en] = W) : StoO W B ua rs v o ∧ Below B w W ∧ W.heap[N]? = some (.cells #[ua, v.1, o.1, .int .i64 en] 33 (0, 0)) := by
  obtain ⟨h1, h2⟩ := setSto4 hN hW
  refine ⟨⟨ownG h.out h2 (fun k hk ek => by injection ek with ek; subst ek; exact own_ne h.out hN (by decide) hk), ⟨fun r hr => ownG (h.own.own r hr) h2 (fun k hk ek => by injection ek with ek; subst ek; exact own_ne (h.own.own r hr) hN (by decide) hk), h.own.apart⟩⟩, ?_, h1⟩
  exact below_of_grown h2 (fun k hk => by injection hk with hk; omega) hB
set_option maxHeartbeats 2000000 in
set_option maxRecDepth 100000 in
theorem trapped_is {w : World} {B : Nat} {ua uv uo : Value} {rs : List VR} {V O : List Int} (h : StoO w B ua rs (uv, V) (uo, O)) :
    Calls Tryz.prog 33 #[.agg #[ua, uv, uo, .int .i64 0]] w fun e w' => e = .returned (.agg #[ua, uv, uo, .int .i64 1]) ∧ StoO w' B ua rs (uv, V) (uo, O) ∧ Below w.heap.size w w' := by
  obtain ⟨a1, c1, h1⟩ := iownShape h.out
  obtain ⟨a2, c2, h2⟩ := iownShape (h.own.own (uv, V) (by simp))
  obtain ⟨a3, c3, h3⟩ := iownShape (h.own.own (uo, O) (by simp))
  simp only at h2 h3
  subst h1; subst h2; subst h3
  obtain ⟨c4, hc4⟩ : ∃ c4 : Array Value, c4 = #[.slice a1 rs.length c1, .slice a2 V.length c2, .slice a3 O.length c3, .int .i64 1] := ⟨_, rfl⟩
  have b2 : Below w.heap.size w ((w.alloc (.cells #[.slice a1 rs.length c1, .slice a2 V.length c2, .slice a3 O.length c3, .int .i64 1] 33)).alloc (.cells #[.slice a1 rs.length c1, .slice a2 V.length c2, .slice a3 O.length c3, .int .i64 1] 33)) := (alloc_below w _).alloc (by simp) _
  have p1 : ((w.alloc (.cells #[.slice a1 rs.length c1, .slice a2 V.length c2, .slice a3 O.length c3, .int .i64 1] 33)).alloc (.cells #[.slice a1 rs.length c1, .slice a2 V.length c2, .slice a3 O.length c3, .int .i64 1] 33)).heap[w.heap.size + 1]? = some (.cells #[.slice a1 rs.length c1, .slice a2 V.length c2, .slice a3 O.length c3, .int .i64 1] 33 (0, 0)) := by
    have h := blkLast (w.alloc (.cells #[.slice a1 rs.length c1, .slice a2 V.length c2, .slice a3 O.length c3, .int .i64 1] 33)) (.cells #[.slice a1 rs.length c1, .slice a2 V.length c2, .slice a3 O.length c3, .int .i64 1] 33)
    rw [World.size_alloc] at h
    exact h
  have S0 := hid (And.intro (h.later b2) (And.intro b2 p1))
  clear h b2 p1 hc4
  go_enter Tryz.func33, Tryz.ntmps33
  go_wp2_with fail
  have hlv := run_loadVar_mid _ (w.heap.size + 1) 0 _ _ _ (blk_range S0.out.2.2) Tryz.underlying33 rfl sizeSto
  refine bodyPost_ret (v := .agg #[.slice a1 rs.length c1, .slice a2 V.length c2, .slice a3 O.length c3, .int .i64 1]) ?_ rfl ⟨rfl, S0.out.1, S0.out.2.1⟩
  simp [results, Tryz.results33, asAddr, hlv, Act.put]
  try rfl
set_option maxHeartbeats 1000000 in
theorem varWords2_is (nv vv : Value) (hnv : ∃ a n c, nv = .slice a n c) (hvv : ∃ a n c, vv = .slice a n c) (w : World) :
    Calls Tryz.prog 36 #[nv, vv] w fun e w' => e = .returned (.func (.func 78) #[] #[.pointer (some ⟨w.heap.size, 0, Option.none⟩), .pointer (some ⟨w.heap.size + 1, 0, Option.none⟩)]) ∧ Below w.heap.size w w' ∧ w'.heap[w.heap.size]? = some (.cells #[nv] 67 (0, 0)) ∧ w'.heap[w.heap.size + 1]? = some (.cells #[vv] 31 (0, 0)) := by
  obtain ⟨a1, n1, b1, rfl⟩ := hnv
  obtain ⟨a2, n2, b2, rfl⟩ := hvv
  have hB : Hid (Below w.heap.size w ((w.alloc (.cells #[.slice a1 n1 b1] 67)).alloc (.cells #[.slice a2 n2 b2] 31))) := (alloc_below w _).alloc (by simp) _
  have q0 : Hid (((w.alloc (.cells #[.slice a1 n1 b1] 67)).alloc (.cells #[.slice a2 n2 b2] 31)).heap[w.heap.size]? = some (.cells #[.slice a1 n1 b1] 67 (0, 0))) := by
    show _ = _
    rw [Below.heap_alloc _ _ _ (by simp)]; exact heap_last _ _
  have q1 : Hid (((w.alloc (.cells #[.slice a1 n1 b1] 67)).alloc (.cells #[.slice a2 n2 b2] 31)).heap[w.heap.size + 1]? = some (.cells #[.slice a2 n2 b2] 31 (0, 0))) := by
    have h := heap_last (w.alloc (.cells #[.slice a1 n1 b1] 67)) (.cells #[.slice a2 n2 b2] 31)
    rw [World.size_alloc] at h
    exact h
  go_enter Tryz.func36, Tryz.ntmps36
  go_wp2
  go_ret
  exact ⟨rfl, hB.out, q0.out, q1.out⟩
structure PB (w w' : World) (va vb : Value) : Prop where
  p : w'.heap[w.heap.size]? = some (.cells #[va, vb] 27 (0, 0))
  q : w'.heap[w.heap.size + 1]? = some (.cells #[.slice Option.none 0 0, .slice Option.none 0 0, .slice Option.none 0 0, .int .i64 0] 33 (0, 0))
  b : Below w.heap.size w w'
theorem PB.later {w w1 w2 : World} {va vb : Value} (h : PB w w1 va vb) (hb : Below w1.heap.size w1 w2) : PB w w2 va vb :=
  ⟨(hb.block _ (lt_heap h.p)).trans h.p, (hb.block _ (lt_heap h.q)).trans h.q, h.b.trans (hb.mono h.b.size)⟩
theorem PB.start (w : World) (va vb : Value) : PB w ((w.alloc (.cells #[va, vb] 27)).alloc (.cells #[.slice Option.none 0 0, .slice Option.none 0 0, .slice Option.none 0 0, .int .i64 0] 33)) va vb := by
  refine ⟨?_, ?_, (alloc_below w _).alloc (by simp) _⟩
  · rw [Below.heap_alloc _ _ _ (by simp)]; exact blkLast _ _
  · have h := blkLast (w.alloc (.cells #[va, vb] 27)) (.cells #[.slice Option.none 0 0, .slice Option.none 0 0, .slice Option.none 0 0, .int .i64 0] 33)
    rw [World.size_alloc] at h
    exact h
theorem RS.end_ {w0 w : World} {R : Nat} {ts : List AR} {ns : List ByteArray} {rs : List VR} {st : St} {va vb nv sa sv so : Value} {en : Int} (h : RS w0 w R ts ns rs st va vb nv sa sv so) :
    (w.setCell ⟨R, 6, Option.none⟩ (.int .i64 en)).heap[R]? = some (.cells #[va, vb, nv, sa, sv, so, .int .i64 en, .int .i64 (st.f : Int)] 70 (0, 0)) ∧ StoO (w.setCell ⟨R, 6, Option.none⟩ (.int .i64 en)) w0.heap.size sa rs (sv, st.V) (so, st.O) ∧ Below w0.heap.size w0 (w.setCell ⟨R, 6, Option.none⟩ (.int .i64 en)) ∧ w0.heap.size ≤ (w.setCell ⟨R, 6, Option.none⟩ (.int .i64 en)).heap.size := by
  have hb := Go.heap_setCell_same w R 6 _ _ (.int .i64 en) h.blk
  have hg := grownBy_set (w := w) (g := R) ⟨R, 6, Option.none⟩ rfl (.int .i64 en)
  refine ⟨by rw [hb]; rfl, ⟨ownG h.out hg (fun k hk ek => by injection ek with ek; subst ek; exact own_ne h.out h.blk (by decide) hk), ⟨fun r hr => ownG (h.own.own r hr) hg (fun k hk ek => by injection ek with ek; subst ek; exact own_ne (h.own.own r hr) h.blk (by decide) hk), h.own.apart⟩⟩, h.low.setCell (p := ⟨R, 6, Option.none⟩) h.ge.1 _, by rw [World.size_setCell]; exact h.ge.2⟩
set_option maxHeartbeats 8000000 in
set_option maxRecDepth 100000 in
theorem impl_Run (ts : List AR) (hn : ts.length ≤ 1048576) (hts : ∀ t ∈ ts, t.s.size ≤ 1048576) (F : SF) (hS : ssize F ≤ 1048576) (fuel : Int) (va vb : Value) (w : World) (ha : AV w 0 va ts) (hv : SV w 0 F vb) :
    Calls Tryz.prog 8 #[.agg #[va, vb], .int .i64 fuel] w (OutSto w (runR ts F fuel).2.A (runR ts F fuel).2.V (runR ts F fuel).2.O ((runR ts F fuel).1 : Int)) := by
  have HA := hid ha
  have HV := hid hv
  have HB := hid (And.intro hn (And.intro hts hS))
  have hNd := Nat.le_trans (snodes_le F) hS
  have HVO : Hid (∀ w v, SV w 0 F v → Calls Tryz.prog 34 #[v] w (GoodNames w (nmS 1 F []))) := fun w v h => impl_VarsOf F (by omega) (fun n hn => Nat.le_trans (sall_small F n hn) (by omega)) w v h
  obtain ⟨tot, htot⟩ : ∃ tot, runR ts F fuel = tot := ⟨_, rfl⟩
  have HT := hid htot
  obtain ⟨a1, b1, rfl⟩ := ha.shape
  obtain ⟨a2, b2, rfl⟩ := hv.shape
  have P0 := hid (PB.start w (.slice a1 ts.length b1) (.slice a2 (slen F) b2))
  have RP0 : Hid (((w.alloc (.cells #[.slice a1 ts.length b1, .slice a2 (slen F) b2] 27)).alloc (.cells #[.slice Option.none 0 0, .slice Option.none 0 0, .slice Option.none 0 0, .int .i64 0] 33)).rangeAt w.heap.size 0 [.slice a1 ts.length b1, .slice a2 (slen F) b2]) := blk_range P0.out.p
  rw [htot]
  clear ha hv hn hts hS htot hNd
  go_enter Tryz.func8, Tryz.ntmps8
  go_wp2_with (refine wpList_load_mid rfl 27 _ rfl w.heap.size 0 rfl _ _ RP0.out Tryz.underlying27 rfl sizeProg2 ?_)
  refine (impl_ProgOk ts HB.out.1 HB.out.2.1 F HB.out.2.2 _ _ _ (HA.out.later P0.out.b) (HV.out.later P0.out.b)).mono ?_
  rintro e w1 ⟨rfl, hb1⟩
  have P1 := hid (P0.out.later hb1)
  clear hb1 P0 RP0
  obtain ⟨ok, hok⟩ : ∃ ok, progB ts F = ok := ⟨_, rfl⟩
  rw [hok]
  cases ok with
  | false =>
    have e0 : Hid (tot = (1, ⟨[], [], [], 0⟩)) := show _ = _ by rw [← HT.out, runR, hok]; rfl
    clear hok
    go_wp2_with fail
    refine (impl_StoNew [] .nil 0 (by omega) (by simp) (.slice Option.none 0 0) (.slice Option.none 0 0) w1 ⟨Option.none, 0, rfl, .inl rfl⟩ (SV.nil _ _ _ _) (fun w v hv => (impl_VarsOf .nil (by simp [snodes]) (fun n hn => by simp [sall] at hn) w v hv).mono fun e w' ⟨u, h1, h2, h3⟩ => by obtain ⟨p, q, e⟩ := iownShape h2; subst e; exact ⟨p, q, h1, h3⟩)).mono ?_
    rintro e w2 ⟨ua, uv, rs, rfl, hz, hso, hb2⟩
    have P2 := hid (P1.out.later hb2)
    have S2 := hid (hso.lower P1.out.b.size)
    have HZ := hid hz
    have o1 : ua.oneCell' = true := by obtain ⟨p, q, e⟩ := iownShape hso.out; rw [e]; rfl
    have o2 : uv.oneCell' = true := by obtain ⟨p, q, e⟩ := iownShape (hso.own.own (uv, List.replicate 0 0) (by simp)); simp only at e; rw [e]; rfl
    clear hb2 hso hz P1
    go_wp2_with fail
    refine (trapped_is S2.out).mono ?_
    rintro e w3 ⟨rfl, hso3, hb3⟩
    have P3 := hid (P2.out.later hb3)
    have S3 := hid hso3
    have TR : Hid (w3.there (w.heap.size + 1) 0 4) := blkNone P3.out.q
    clear hb3 hso3 P2 S2
    go_wp2_with (refine store_abs rfl 33 _ _ rfl (w.heap.size + 1) 0 #[ua, uv, .slice Option.none 0 0, .int .i64 1] rfl rfl TR.out sizeSto (one4 o1 o2 rfl rfl) ?_; intro W2 hW2)
    obtain ⟨e1, e2, e3⟩ := S3.out.put P3.out.q (by omega) P3.out.b.size hW2
    have hlv := run_loadVar_mid W2 (w.heap.size + 1) 0 _ _ _ (blk_range e3) Tryz.underlying33 rfl sizeSto
    refine bodyPost_ret (v := .agg #[ua, uv, .slice Option.none 0 0, .int .i64 1]) ?_ rfl ⟨ua, uv, _, rs, (by rw [e0.out]; rfl), (by rw [e0.out]; exact HZ.out), (by rw [e0.out]; exact e1), P3.out.b.trans e2⟩
    simp [results, Tryz.results8, asAddr, hlv, Act.put]
    try rfl
  | true =>
    have T0 : Hid (tot = exec ts (nmS 1 F []) (fuelN fuel + 1) [] (.inl F) (run0 ts F fuel)) := show _ = _ by rw [← HT.out, runR, hok]; rfl
    have OK := hid (And.intro (prog_ok hok) (And.intro (run0_fine hok fuel) (And.intro (prog_few hok) (vars_few hok))))
    clear hok HT
    by_cases h1 : fuel < 0
    · have hfi : Hid ((fuelN fuel : Int) = 0) := show _ = _ by rw [fuelN, if_neg (by omega)]; rfl
      go_wp2_with fail
      have bd : Below w1.heap.size w1 w1.drew := (Below.refl _ w1).drew
      have Pd := P1.out.later bd
      clear bd P1
      obtain ⟨W1, hW1⟩ : ∃ W1, w1.drew = W1 := ⟨_, rfl⟩
      rw [hW1] at Pd
      refine wp_region_held_drew (S := fun w' => w'.rangeAt w.heap.size 0 [.slice a1 ts.length b1, .slice a2 (slen F) b2]) (by kernel_rfl) (by rw [hW1]; exact blk_range Pd.p) (fun hHeld => ?_)
      rw [hW1] at hHeld ⊢
      clear hW1
      refine wpAnyH_take (i := 0) (v := .agg ([.slice a1 ts.length b1, .slice a2 (slen F) b2] : List Value).toArray) rfl (by kernel_rfl) (by kernel_rfl) (by kernel_rfl) (fun _ _ _ h => h) (yieldsIf_load_mid (by rfl) 27 _ rfl (w.heap.size) (0) rfl [.slice a1 ts.length b1, .slice a2 (slen F) b2] _ (fun w h => h) Tryz.underlying27 rfl sizeProg2) hHeld ?_
      simp only [Act.put, zp]
      refine wpAnyH_take (i := 1) (v := .pointer (some ⟨w.heap.size, 1, Option.none⟩)) rfl (by kernel_rfl) (by kernel_rfl) (by kernel_rfl) (fun _ _ _ h => h) (Or.inl ⟨by rfl, ?xra1⟩) hHeld ?_
      case xra1 => intro w hSw; go_simp
      simp only [Act.put, zp]
      refine wpAnyH_take (i := 2) (v := .slice a2 (slen F) b2) rfl (by kernel_rfl) (by kernel_rfl) (by kernel_rfl) (fun _ _ _ h => h) (Or.inl ⟨by rfl, ?xra2⟩) hHeld ?_
      case xra2 => intro w hSw; have h2 := hSw 1 _ rfl; go_simp
      simp only [Act.put, zp]
      refine wpAnyH_take (i := 4) (v := .agg ([.slice a1 ts.length b1, .slice a2 (slen F) b2] : List Value).toArray) rfl (by kernel_rfl) (by kernel_rfl) (by kernel_rfl) (fun _ _ _ h => h) (yieldsIf_load_mid (by rfl) 27 _ rfl (w.heap.size) (0) rfl [.slice a1 ts.length b1, .slice a2 (slen F) b2] _ (fun w h => h) Tryz.underlying27 rfl sizeProg2) hHeld ?_
      simp only [Act.put, zp]
      refine wpAnyH_take (i := 6) (v := .int .i64 0) rfl (by kernel_rfl) (by kernel_rfl) (by kernel_rfl) (fun _ _ _ h => h) (Or.inl ⟨by rfl, ?xra6⟩) hHeld ?_
      case xra6 => intro w hSw; go_simp
      simp only [Act.put, zp]
      refine wpAnyH_ready (rs := [3]) (by kernel_rfl) (by simp) ?_
      refine AllReadyH.cons rfl (fun K hK => ?_) AllReadyH.nil
      rw [if_pos (by rfl)]
      simp only [zq]
      go_wp2_with fail
      refine (HVO.out _ _ (HV.out.later Pd.b)).mono ?_
      rintro e w2 ⟨nv, rfl, hown2, hb2⟩
      have P2 := hid (Pd.later hb2)
      have N2 := hid (own_lower hown2 Pd.b.size)
      obtain ⟨n1, n2, rfl⟩ := iownShape hown2
      go_wp2_with fail
      refine hK.out _ _ (rangeAt_later hHeld hb2) (fun hHeld => ?_)
      clear hb2 hown2 hK Pd
      refine wpAnyH_ready (rs := [5]) (by kernel_rfl) (by simp) ?_
      refine AllReadyH.cons rfl (fun K hK => ?_) AllReadyH.nil
      rw [if_pos (by rfl)]
      simp only [zq]
      go_wp2_with fail
      refine (impl_StoNew ts F (nmS 1 F []).length (by have := OK.out.2.2.2; omega) HB.out.1 (.slice a1 ts.length b1) (.slice a2 (slen F) b2) w2 (HA.out.later P2.out.b) (HV.out.later P2.out.b) (fun w v hv => (HVO.out w v hv).mono fun e w' ⟨u, h1, h2, h3⟩ => by obtain ⟨p, q, e⟩ := iownShape h2; subst e; exact ⟨p, q, h1, h3⟩)).mono ?_
      rintro e w3 ⟨ua, uv, rs, rfl, hz, hso, hb3⟩
      have P3 := hid (P2.out.later hb3)
      have N3 := hid (ownB N2.out hb3)
      have S3 := hid (hso.lower P2.out.b.size)
      have HZ := hid hz
      obtain ⟨a3, b3, e3⟩ := iownShape hso.out
      obtain ⟨a4, b4, e4⟩ := iownShape (hso.own.own (uv, List.replicate (nmS 1 F []).length 0) (by simp))
      simp only at e4
      subst e3; subst e4
      obtain ⟨m4, hm4⟩ : ∃ m4, (List.replicate (nmS 1 F []).length (0 : Int)).length = m4 := ⟨_, rfl⟩
      rw [hm4] at S3 ⊢
      go_wp2_with fail
      refine hK.out _ _ (rangeAt_later hHeld hb3) (fun hHeld => ?_)
      clear hb3 hso hz hK P2 N2
      refine wpAnyH_take (i := 7) (v := .agg #[.slice a1 ts.length b1, .slice a2 (slen F) b2, .slice n1 (nmS 1 F []).length n2, .slice a3 rs.length b3, .slice a4 m4 b4, .slice Option.none 0 0, .int .i64 0, .int .i64 0]) rfl (by kernel_rfl) (by kernel_rfl) (by kernel_rfl) (fun _ _ _ h => h) (Or.inl ⟨by rfl, ?xrb7⟩) hHeld ?_
      case xrb7 => intro w hSw; go_simp
      simp only [Act.put, zp]
      refine wpAnyH_ready (rs := [8]) (by kernel_rfl) (by simp) ?_
      refine AllReadyH.cons rfl (fun K hK => ?_) AllReadyH.nil
      rw [if_pos (by rfl)]
      simp only [zq]
      go_wp2_with fail
      have hbA := alloc_below w3 (.cells #[.slice a1 ts.length b1, .slice a2 (slen F) b2, .slice n1 (nmS 1 F []).length n2, .slice a3 rs.length b3, .slice a4 m4 b4, .slice Option.none 0 0, .int .i64 0, .int .i64 0] 70)
      have hbl := blkLast w3 (.cells #[.slice a1 ts.length b1, .slice a2 (slen F) b2, .slice n1 (nmS 1 F []).length n2, .slice a3 rs.length b3, .slice a4 m4 b4, .slice Option.none 0 0, .int .i64 0, .int .i64 0] 70)
      refine hK.out _ _ (rangeAt_later hHeld hbA) (fun hHeld => ?_)
      refine wpAnyH_take (i := 9) (v := .pointer (some ⟨w3.heap.size, 0, Option.none⟩)) rfl (by kernel_rfl) (by kernel_rfl) (by kernel_rfl) (fun _ _ _ h => h) (Or.inl ⟨by rfl, ?xrc9⟩) hHeld ?_
      case xrc9 => intro w hSw; go_simp
      simp only [Act.put, zp]
      refine wpAnyH_done (by kernel_rfl) ?_ _
      clear hHeld hK
      have P4 := hid (P3.out.later hbA)
      have R4 : Hid (RS w (w3.alloc (.cells #[.slice a1 ts.length b1, .slice a2 (slen F) b2, .slice n1 (nmS 1 F []).length n2, .slice a3 rs.length b3, .slice a4 m4 b4, .slice Option.none 0 0, .int .i64 0, .int .i64 0] 70)) w3.heap.size ts (nmS 1 F []) rs (run0 ts F fuel) (.slice a1 ts.length b1) (.slice a2 (slen F) b2) (.slice n1 (nmS 1 F []).length n2) (.slice a3 rs.length b3) (.slice a4 m4 b4) (.slice Option.none 0 0)) :=
        ⟨by rw [show ((run0 ts F fuel).f : Int) = 0 from hfi.out]; exact hbl, ownB S3.out.out hbA, S3.out.own.later hbA, HZ.out, ownB N3.out hbA, HA.out, P4.out.b, P3.out.b.size, P4.out.b.size⟩
      obtain ⟨W4, hW4⟩ : ∃ W4, w3.alloc (.cells #[.slice a1 ts.length b1, .slice a2 (slen F) b2, .slice n1 (nmS 1 F []).length n2, .slice a3 rs.length b3, .slice a4 m4 b4, .slice Option.none 0 0, .int .i64 0, .int .i64 0] 70) = W4 := ⟨_, rfl⟩
      obtain ⟨R, hR⟩ : ∃ R, w3.heap.size = R := ⟨_, rfl⟩
      have hRl : w.heap.size + 1 < R := by have := lt_heap P3.out.q; omega
      rw [hW4, hR] at R4
      rw [hW4] at P4
      rw [hW4, hR]
      clear hbA hbl hW4 hR P3 S3 N3 hm4
      go_wp2_with fail
      have bd : Below W4.heap.size W4 W4.drew := (Below.refl _ W4).drew
      have Rd := R4.out.later bd
      have Pd := P4.out.later bd
      clear bd R4 P4
      obtain ⟨W5, hW5⟩ : ∃ W5, W4.drew = W5 := ⟨_, rfl⟩
      rw [hW5] at Pd Rd
      refine wp_region_held_drew (S := fun w' => w'.rangeAt w.heap.size 0 [.slice a1 ts.length b1, .slice a2 (slen F) b2] ∧ w'.cell? ⟨R, 2, Option.none⟩ = some (.slice n1 (nmS 1 F []).length n2) ∧ w'.cell? ⟨R, 4, Option.none⟩ = some (.slice a4 m4 b4)) (by kernel_rfl) (by rw [hW5]; exact ⟨blk_range Pd.p, Rd.cells.1, Rd.cells.2.2.1⟩) (fun hHeld => ?_)
      rw [hW5] at hHeld ⊢
      clear hW5
      refine wpAnyH_take (i := 0) (v := .pointer (some ⟨R, 0, Option.none⟩)) rfl (by kernel_rfl) (by kernel_rfl) (by kernel_rfl) (fun _ _ _ h => h) (Or.inl ⟨by rfl, ?xrd0⟩) hHeld ?_
      case xrd0 => intro w hSw; go_simp
      simp only [Act.put, zp]
      refine wpAnyH_take (i := 1) (v := .pointer (some ⟨R, 0, Option.none⟩)) rfl (by kernel_rfl) (by kernel_rfl) (by kernel_rfl) (fun _ _ _ h => h) (Or.inl ⟨by rfl, ?xrd1⟩) hHeld ?_
      case xrd1 => intro w hSw; go_simp
      simp only [Act.put, zp]
      refine wpAnyH_take (i := 2) (v := .pointer (some ⟨w.heap.size, 1, Option.none⟩)) rfl (by kernel_rfl) (by kernel_rfl) (by kernel_rfl) (fun _ _ _ h => h) (Or.inl ⟨by rfl, ?xrd2⟩) hHeld ?_
      case xrd2 => intro w hSw; go_simp
      simp only [Act.put, zp]
      refine wpAnyH_take (i := 3) (v := .slice a2 (slen F) b2) rfl (by kernel_rfl) (by kernel_rfl) (by kernel_rfl) (fun _ _ _ h => h) (Or.inl ⟨by rfl, ?xrd3⟩) hHeld ?_
      case xrd3 => intro w hSw; have h2 := hSw.1 1 _ rfl; go_simp
      simp only [Act.put, zp]
      refine wpAnyH_take (i := 4) (v := .pointer (some ⟨R, 0, Option.none⟩)) rfl (by kernel_rfl) (by kernel_rfl) (by kernel_rfl) (fun _ _ _ h => h) (Or.inl ⟨by rfl, ?xrd4⟩) hHeld ?_
      case xrd4 => intro w hSw; go_simp
      simp only [Act.put, zp]
      refine wpAnyH_take (i := 5) (v := .pointer (some ⟨R, 0, Option.none⟩)) rfl (by kernel_rfl) (by kernel_rfl) (by kernel_rfl) (fun _ _ _ h => h) (Or.inl ⟨by rfl, ?xrd5⟩) hHeld ?_
      case xrd5 => intro w hSw; go_simp
      simp only [Act.put, zp]
      refine wpAnyH_take (i := 6) (v := .pointer (some ⟨R, 2, Option.none⟩)) rfl (by kernel_rfl) (by kernel_rfl) (by kernel_rfl) (fun _ _ _ h => h) (Or.inl ⟨by rfl, ?xrd6⟩) hHeld ?_
      case xrd6 => intro w hSw; go_simp
      simp only [Act.put, zp]
      refine wpAnyH_take (i := 7) (v := .slice n1 (nmS 1 F []).length n2) rfl (by kernel_rfl) (by kernel_rfl) (by kernel_rfl) (fun _ _ _ h => h) (Or.inl ⟨by rfl, ?xrd7⟩) hHeld ?_
      case xrd7 => intro w hSw; have h2 := hSw.2.1; go_simp
      simp only [Act.put, zp]
      refine wpAnyH_take (i := 8) (v := .pointer (some ⟨R, 0, Option.none⟩)) rfl (by kernel_rfl) (by kernel_rfl) (by kernel_rfl) (fun _ _ _ h => h) (Or.inl ⟨by rfl, ?xrd8⟩) hHeld ?_
      case xrd8 => intro w hSw; go_simp
      simp only [Act.put, zp]
      refine wpAnyH_take (i := 9) (v := .pointer (some ⟨R, 0, Option.none⟩)) rfl (by kernel_rfl) (by kernel_rfl) (by kernel_rfl) (fun _ _ _ h => h) (Or.inl ⟨by rfl, ?xrd9⟩) hHeld ?_
      case xrd9 => intro w hSw; go_simp
      simp only [Act.put, zp]
      refine wpAnyH_take (i := 10) (v := .pointer (some ⟨R, 3, Option.none⟩)) rfl (by kernel_rfl) (by kernel_rfl) (by kernel_rfl) (fun _ _ _ h => h) (Or.inl ⟨by rfl, ?xrd10⟩) hHeld ?_
      case xrd10 => intro w hSw; go_simp
      simp only [Act.put, zp]
      refine wpAnyH_take (i := 11) (v := .pointer (some ⟨R, 4, Option.none⟩)) rfl (by kernel_rfl) (by kernel_rfl) (by kernel_rfl) (fun _ _ _ h => h) (Or.inl ⟨by rfl, ?xrd11⟩) hHeld ?_
      case xrd11 => intro w hSw; go_simp
      simp only [Act.put, zp]
      refine wpAnyH_take (i := 12) (v := .slice a4 m4 b4) rfl (by kernel_rfl) (by kernel_rfl) (by kernel_rfl) (fun _ _ _ h => h) (Or.inl ⟨by rfl, ?xrd12⟩) hHeld ?_
      case xrd12 => intro w hSw; have h2 := hSw.2.2; go_simp
      simp only [Act.put, zp]
      refine wpAnyH_ready (rs := [13]) (by kernel_rfl) (by simp) ?_
      refine AllReadyH.cons rfl (fun K hK => ?_) AllReadyH.nil
      rw [if_pos (by rfl)]
      simp only [zq]
      go_wp2_with fail
      refine (varWords2_is _ _ ⟨_, _, _, rfl⟩ ⟨_, _, _, rfl⟩ W5).mono ?_
      rintro e w6 ⟨rfl, hb6, q0, q1⟩
      have P6 := hid (Pd.later hb6)
      have R6 := hid (Rd.later hb6)
      have hRW := lt_heap Rd.blk
      go_wp2_with fail
      refine hK.out _ _ ⟨rangeAt_later hHeld.1 hb6, keeps hb6 hHeld.2.1, keeps hb6 hHeld.2.2⟩ (fun hHeld => ?_)
      have NB := hid (NmC.base (R := R) (p := W5.heap.size) (q := W5.heap.size + 1) (ns := nmS 1 F []) (nv := .slice n1 (nmS 1 F []).length n2) (sv := .slice a4 m4 b4) (by have := OK.out.2.2.2; omega) (by omega) (by omega))
      have Q6 := hid (And.intro q0 q1)
      clear hb6 q0 q1 hK Pd Rd
      refine wpAnyH_ready (rs := [14]) (by kernel_rfl) (by simp) ?_
      refine AllReadyH.cons rfl (fun K hK => ?_) AllReadyH.nil
      rw [if_pos (by rfl)]
      simp only [zq]
      go_wp2_with fail
      refine (stmts_all (w0 := w) (R := R) (ts := ts) (ns := nmS 1 F []) (vn := (nmS 1 F []).length) (va := .slice a1 ts.length b1) (vb := .slice a2 (slen F) b2) (nv := .slice n1 (nmS 1 F []).length n2) (sa := .slice a3 rs.length b3) (sv := .slice a4 m4 b4) rfl (fuelN fuel + 1) F [] _ _ (run0 ts F fuel) rs _ w6 (.slice a2 (slen F) b2) OK.out.1 (by have := OK.out.2.2.1.2.1; omega) NB.out OK.out.2.1 (Nat.lt_succ_self _) R6.out Q6.out HV.out).mono ?_
      rintro e w7 ⟨rs7, so7, rfl, hR7, hk7, hs7⟩
      rw [← T0.out] at hR7 ⊢
      obtain ⟨en, st7⟩ := tot
      have R7 := hid hR7
      have P7 : Hid (PB w w7 (.slice a1 ts.length b1) (.slice a2 (slen F) b2)) := ⟨hk7 _ _ _ (by omega) (by decide) P6.out.p, hk7 _ _ _ (by omega) (by decide) P6.out.q, hR7.low⟩
      clear hk7 hs7 R6 P6 NB Q6
      go_wp2_with fail
      refine hK.out _ _ ⟨blk_range P7.out.p, hR7.cells.1, hR7.cells.2.2.1⟩ (fun hHeld => ?_)
      clear hK
      refine wpAnyH_take (i := 15) (v := .pointer (some ⟨R, 0, Option.none⟩)) rfl (by kernel_rfl) (by kernel_rfl) (by kernel_rfl) (fun _ _ _ h => h) (Or.inl ⟨by rfl, ?xre15⟩) hHeld ?_
      case xre15 => intro w hSw; go_simp
      simp only [Act.put, zp]
      refine wpAnyH_take (i := 16) (v := .pointer (some ⟨R, 3, Option.none⟩)) rfl (by kernel_rfl) (by kernel_rfl) (by kernel_rfl) (fun _ _ _ h => h) (Or.inl ⟨by rfl, ?xre16⟩) hHeld ?_
      case xre16 => intro w hSw; go_simp
      simp only [Act.put, zp]
      refine wpAnyH_take (i := 17) (v := .pointer (some ⟨R, 6, Option.none⟩)) rfl (by kernel_rfl) (by kernel_rfl) (by kernel_rfl) (fun _ _ _ h => h) (Or.inl ⟨by rfl, ?xre17⟩) hHeld ?_
      case xre17 => intro w hSw; go_simp
      simp only [Act.put, zp]
      refine wpAnyH_ready (rs := [18]) (by kernel_rfl) (by simp) ?_
      refine AllReadyH.cons rfl (fun K hK => ?_) AllReadyH.nil
      rw [if_pos (by rfl)]
      simp only [zq]
      have c6 : w7.cell? ⟨R, 6, Option.none⟩ = some (.int .i64 0) := by simp [World.cell?, hR7.blk]
      have f6 : w7.frozen? ⟨R, 6, Option.none⟩ = false := hR7.cells.2.2.2.2.2 6
      obtain ⟨E1, E2, E3, E4⟩ := RS.end_ (en := (en : Int)) hR7
      have P8 : PB w (w7.setCell ⟨R, 6, Option.none⟩ (.int .i64 (en : Int))) (.slice a1 ts.length b1) (.slice a2 (slen F) b2) := ⟨(Below.heap_setCell _ _ _ _ (by show w.heap.size ≠ R; omega)).trans P7.out.p, (Below.heap_setCell _ _ _ _ (by show w.heap.size + 1 ≠ R; omega)).trans P7.out.q, E3⟩
      have HE := hid (And.intro E1 (And.intro E2 (And.intro E3 E4)))
      have HP8 := hid P8
      have HA7 := hid hR7.a
      obtain ⟨a5, b5, e5⟩ := iownShape (hR7.own.own (so7, st7.O) (by simp))
      simp only at e5
      subst e5
      clear E1 E2 E3 E4 P8 hR7 R7 P7
      go_wp2_with fail
      refine hK.out _ _ ⟨blk_range HP8.out.p, by simp [World.cell?, HE.out.1], by simp [World.cell?, HE.out.1]⟩ (fun hHeld => ?_)
      refine wpAnyH_done (by kernel_rfl) ?_ _
      clear hHeld hK c6 f6
      obtain ⟨W8, hW8⟩ : ∃ W8, w7.setCell ⟨R, 6, Option.none⟩ (.int .i64 (en : Int)) = W8 := ⟨_, rfl⟩
      rw [hW8] at HE HP8 ⊢
      clear hW8
      have RG : Hid (W8.rangeAt R 3 [.slice a3 rs.length b3, .slice a4 m4 b4, .slice a5 st7.O.length b5, .int .i64 (en : Int)]) := rangeSub (cs := [.slice a1 ts.length b1, .slice a2 (slen F) b2, .slice n1 (nmS 1 F []).length n2]) (es := [.int .i64 (st7.f : Int)]) (blk_range HE.out.1)
      have TR : Hid (W8.there (w.heap.size + 1) 0 4) := blkNone HP8.out.q
      go_wp2_with (first | (refine wpList_load_mid rfl 33 _ rfl R 3 rfl _ _ RG.out Tryz.underlying33 rfl sizeSto ?_) | (refine store_abs rfl 33 _ _ rfl (w.heap.size + 1) 0 #[.slice a3 rs.length b3, .slice a4 m4 b4, .slice a5 st7.O.length b5, .int .i64 (en : Int)] rfl rfl TR.out sizeSto (one4 rfl rfl rfl rfl) ?_; intro W2 hW2))
      obtain ⟨e1, e2, e3⟩ := HE.out.2.1.put HP8.out.q (by omega) HE.out.2.2.2 hW2
      have hlv := run_loadVar_mid W2 (w.heap.size + 1) 0 _ _ _ (blk_range e3) Tryz.underlying33 rfl sizeSto
      refine bodyPost_ret (v := .agg #[.slice a3 rs.length b3, .slice a4 m4 b4, .slice a5 st7.O.length b5, .int .i64 (en : Int)]) ?_ rfl ⟨_, _, _, rs7, rfl, HA7.out, e1, HE.out.2.2.1.trans e2⟩
      simp [results, Tryz.results8, asAddr, hlv, Act.put]
      try rfl
    · by_cases h2 : fuel > 4000
      · have hfi : Hid ((fuelN fuel : Int) = 0) := show _ = _ by rw [fuelN, if_neg (by omega)]; rfl
        go_wp2_with fail
        have bd : Below w1.heap.size w1 w1.drew := (Below.refl _ w1).drew
        have Pd := P1.out.later bd
        clear bd P1
        obtain ⟨W1, hW1⟩ : ∃ W1, w1.drew = W1 := ⟨_, rfl⟩
        rw [hW1] at Pd
        refine wp_region_held_drew (S := fun w' => w'.rangeAt w.heap.size 0 [.slice a1 ts.length b1, .slice a2 (slen F) b2]) (by kernel_rfl) (by rw [hW1]; exact blk_range Pd.p) (fun hHeld => ?_)
        rw [hW1] at hHeld ⊢
        clear hW1
        refine wpAnyH_take (i := 0) (v := .agg ([.slice a1 ts.length b1, .slice a2 (slen F) b2] : List Value).toArray) rfl (by kernel_rfl) (by kernel_rfl) (by kernel_rfl) (fun _ _ _ h => h) (yieldsIf_load_mid (by rfl) 27 _ rfl (w.heap.size) (0) rfl [.slice a1 ts.length b1, .slice a2 (slen F) b2] _ (fun w h => h) Tryz.underlying27 rfl sizeProg2) hHeld ?_
        simp only [Act.put, zp]
        refine wpAnyH_take (i := 1) (v := .pointer (some ⟨w.heap.size, 1, Option.none⟩)) rfl (by kernel_rfl) (by kernel_rfl) (by kernel_rfl) (fun _ _ _ h => h) (Or.inl ⟨by rfl, ?yra1⟩) hHeld ?_
        case yra1 => intro w hSw; go_simp
        simp only [Act.put, zp]
        refine wpAnyH_take (i := 2) (v := .slice a2 (slen F) b2) rfl (by kernel_rfl) (by kernel_rfl) (by kernel_rfl) (fun _ _ _ h => h) (Or.inl ⟨by rfl, ?yra2⟩) hHeld ?_
        case yra2 => intro w hSw; have h2 := hSw 1 _ rfl; go_simp
        simp only [Act.put, zp]
        refine wpAnyH_take (i := 4) (v := .agg ([.slice a1 ts.length b1, .slice a2 (slen F) b2] : List Value).toArray) rfl (by kernel_rfl) (by kernel_rfl) (by kernel_rfl) (fun _ _ _ h => h) (yieldsIf_load_mid (by rfl) 27 _ rfl (w.heap.size) (0) rfl [.slice a1 ts.length b1, .slice a2 (slen F) b2] _ (fun w h => h) Tryz.underlying27 rfl sizeProg2) hHeld ?_
        simp only [Act.put, zp]
        refine wpAnyH_take (i := 6) (v := .int .i64 0) rfl (by kernel_rfl) (by kernel_rfl) (by kernel_rfl) (fun _ _ _ h => h) (Or.inl ⟨by rfl, ?yra6⟩) hHeld ?_
        case yra6 => intro w hSw; go_simp
        simp only [Act.put, zp]
        refine wpAnyH_ready (rs := [3]) (by kernel_rfl) (by simp) ?_
        refine AllReadyH.cons rfl (fun K hK => ?_) AllReadyH.nil
        rw [if_pos (by rfl)]
        simp only [zq]
        go_wp2_with fail
        refine (HVO.out _ _ (HV.out.later Pd.b)).mono ?_
        rintro e w2 ⟨nv, rfl, hown2, hb2⟩
        have P2 := hid (Pd.later hb2)
        have N2 := hid (own_lower hown2 Pd.b.size)
        obtain ⟨n1, n2, rfl⟩ := iownShape hown2
        go_wp2_with fail
        refine hK.out _ _ (rangeAt_later hHeld hb2) (fun hHeld => ?_)
        clear hb2 hown2 hK Pd
        refine wpAnyH_ready (rs := [5]) (by kernel_rfl) (by simp) ?_
        refine AllReadyH.cons rfl (fun K hK => ?_) AllReadyH.nil
        rw [if_pos (by rfl)]
        simp only [zq]
        go_wp2_with fail
        refine (impl_StoNew ts F (nmS 1 F []).length (by have := OK.out.2.2.2; omega) HB.out.1 (.slice a1 ts.length b1) (.slice a2 (slen F) b2) w2 (HA.out.later P2.out.b) (HV.out.later P2.out.b) (fun w v hv => (HVO.out w v hv).mono fun e w' ⟨u, h1, h2, h3⟩ => by obtain ⟨p, q, e⟩ := iownShape h2; subst e; exact ⟨p, q, h1, h3⟩)).mono ?_
        rintro e w3 ⟨ua, uv, rs, rfl, hz, hso, hb3⟩
        have P3 := hid (P2.out.later hb3)
        have N3 := hid (ownB N2.out hb3)
        have S3 := hid (hso.lower P2.out.b.size)
        have HZ := hid hz
        obtain ⟨a3, b3, e3⟩ := iownShape hso.out
        obtain ⟨a4, b4, e4⟩ := iownShape (hso.own.own (uv, List.replicate (nmS 1 F []).length 0) (by simp))
        simp only at e4
        subst e3; subst e4
        obtain ⟨m4, hm4⟩ : ∃ m4, (List.replicate (nmS 1 F []).length (0 : Int)).length = m4 := ⟨_, rfl⟩
        rw [hm4] at S3 ⊢
        go_wp2_with fail
        refine hK.out _ _ (rangeAt_later hHeld hb3) (fun hHeld => ?_)
        clear hb3 hso hz hK P2 N2
        refine wpAnyH_take (i := 7) (v := .agg #[.slice a1 ts.length b1, .slice a2 (slen F) b2, .slice n1 (nmS 1 F []).length n2, .slice a3 rs.length b3, .slice a4 m4 b4, .slice Option.none 0 0, .int .i64 0, .int .i64 0]) rfl (by kernel_rfl) (by kernel_rfl) (by kernel_rfl) (fun _ _ _ h => h) (Or.inl ⟨by rfl, ?yrb7⟩) hHeld ?_
        case yrb7 => intro w hSw; go_simp
        simp only [Act.put, zp]
        refine wpAnyH_ready (rs := [8]) (by kernel_rfl) (by simp) ?_
        refine AllReadyH.cons rfl (fun K hK => ?_) AllReadyH.nil
        rw [if_pos (by rfl)]
        simp only [zq]
        go_wp2_with fail
        have hbA := alloc_below w3 (.cells #[.slice a1 ts.length b1, .slice a2 (slen F) b2, .slice n1 (nmS 1 F []).length n2, .slice a3 rs.length b3, .slice a4 m4 b4, .slice Option.none 0 0, .int .i64 0, .int .i64 0] 70)
        have hbl := blkLast w3 (.cells #[.slice a1 ts.length b1, .slice a2 (slen F) b2, .slice n1 (nmS 1 F []).length n2, .slice a3 rs.length b3, .slice a4 m4 b4, .slice Option.none 0 0, .int .i64 0, .int .i64 0] 70)
        refine hK.out _ _ (rangeAt_later hHeld hbA) (fun hHeld => ?_)
        refine wpAnyH_take (i := 9) (v := .pointer (some ⟨w3.heap.size, 0, Option.none⟩)) rfl (by kernel_rfl) (by kernel_rfl) (by kernel_rfl) (fun _ _ _ h => h) (Or.inl ⟨by rfl, ?yrc9⟩) hHeld ?_
        case yrc9 => intro w hSw; go_simp
        simp only [Act.put, zp]
        refine wpAnyH_done (by kernel_rfl) ?_ _
        clear hHeld hK
        have P4 := hid (P3.out.later hbA)
        have R4 : Hid (RS w (w3.alloc (.cells #[.slice a1 ts.length b1, .slice a2 (slen F) b2, .slice n1 (nmS 1 F []).length n2, .slice a3 rs.length b3, .slice a4 m4 b4, .slice Option.none 0 0, .int .i64 0, .int .i64 0] 70)) w3.heap.size ts (nmS 1 F []) rs (run0 ts F fuel) (.slice a1 ts.length b1) (.slice a2 (slen F) b2) (.slice n1 (nmS 1 F []).length n2) (.slice a3 rs.length b3) (.slice a4 m4 b4) (.slice Option.none 0 0)) :=
          ⟨by rw [show ((run0 ts F fuel).f : Int) = 0 from hfi.out]; exact hbl, ownB S3.out.out hbA, S3.out.own.later hbA, HZ.out, ownB N3.out hbA, HA.out, P4.out.b, P3.out.b.size, P4.out.b.size⟩
        obtain ⟨W4, hW4⟩ : ∃ W4, w3.alloc (.cells #[.slice a1 ts.length b1, .slice a2 (slen F) b2, .slice n1 (nmS 1 F []).length n2, .slice a3 rs.length b3, .slice a4 m4 b4, .slice Option.none 0 0, .int .i64 0, .int .i64 0] 70) = W4 := ⟨_, rfl⟩
        obtain ⟨R, hR⟩ : ∃ R, w3.heap.size = R := ⟨_, rfl⟩
        have hRl : w.heap.size + 1 < R := by have := lt_heap P3.out.q; omega
        rw [hW4, hR] at R4
        rw [hW4] at P4
        rw [hW4, hR]
        clear hbA hbl hW4 hR P3 S3 N3 hm4
        go_wp2_with fail
        have bd : Below W4.heap.size W4 W4.drew := (Below.refl _ W4).drew
        have Rd := R4.out.later bd
        have Pd := P4.out.later bd
        clear bd R4 P4
        obtain ⟨W5, hW5⟩ : ∃ W5, W4.drew = W5 := ⟨_, rfl⟩
        rw [hW5] at Pd Rd
        refine wp_region_held_drew (S := fun w' => w'.rangeAt w.heap.size 0 [.slice a1 ts.length b1, .slice a2 (slen F) b2] ∧ w'.cell? ⟨R, 2, Option.none⟩ = some (.slice n1 (nmS 1 F []).length n2) ∧ w'.cell? ⟨R, 4, Option.none⟩ = some (.slice a4 m4 b4)) (by kernel_rfl) (by rw [hW5]; exact ⟨blk_range Pd.p, Rd.cells.1, Rd.cells.2.2.1⟩) (fun hHeld => ?_)
        rw [hW5] at hHeld ⊢
        clear hW5
        refine wpAnyH_take (i := 0) (v := .pointer (some ⟨R, 0, Option.none⟩)) rfl (by kernel_rfl) (by kernel_rfl) (by kernel_rfl) (fun _ _ _ h => h) (Or.inl ⟨by rfl, ?yrd0⟩) hHeld ?_
        case yrd0 => intro w hSw; go_simp
        simp only [Act.put, zp]
        refine wpAnyH_take (i := 1) (v := .pointer (some ⟨R, 0, Option.none⟩)) rfl (by kernel_rfl) (by kernel_rfl) (by kernel_rfl) (fun _ _ _ h => h) (Or.inl ⟨by rfl, ?yrd1⟩) hHeld ?_
        case yrd1 => intro w hSw; go_simp
        simp only [Act.put, zp]
        refine wpAnyH_take (i := 2) (v := .pointer (some ⟨w.heap.size, 1, Option.none⟩)) rfl (by kernel_rfl) (by kernel_rfl) (by kernel_rfl) (fun _ _ _ h => h) (Or.inl ⟨by rfl, ?yrd2⟩) hHeld ?_
        case yrd2 => intro w hSw; go_simp
        simp only [Act.put, zp]
        refine wpAnyH_take (i := 3) (v := .slice a2 (slen F) b2) rfl (by kernel_rfl) (by kernel_rfl) (by kernel_rfl) (fun _ _ _ h => h) (Or.inl ⟨by rfl, ?yrd3⟩) hHeld ?_
        case yrd3 => intro w hSw; have h2 := hSw.1 1 _ rfl; go_simp
        simp only [Act.put, zp]
        refine wpAnyH_take (i := 4) (v := .pointer (some ⟨R, 0, Option.none⟩)) rfl (by kernel_rfl) (by kernel_rfl) (by kernel_rfl) (fun _ _ _ h => h) (Or.inl ⟨by rfl, ?yrd4⟩) hHeld ?_
        case yrd4 => intro w hSw; go_simp
        simp only [Act.put, zp]
        refine wpAnyH_take (i := 5) (v := .pointer (some ⟨R, 0, Option.none⟩)) rfl (by kernel_rfl) (by kernel_rfl) (by kernel_rfl) (fun _ _ _ h => h) (Or.inl ⟨by rfl, ?yrd5⟩) hHeld ?_
        case yrd5 => intro w hSw; go_simp
        simp only [Act.put, zp]
        refine wpAnyH_take (i := 6) (v := .pointer (some ⟨R, 2, Option.none⟩)) rfl (by kernel_rfl) (by kernel_rfl) (by kernel_rfl) (fun _ _ _ h => h) (Or.inl ⟨by rfl, ?yrd6⟩) hHeld ?_
        case yrd6 => intro w hSw; go_simp
        simp only [Act.put, zp]
        refine wpAnyH_take (i := 7) (v := .slice n1 (nmS 1 F []).length n2) rfl (by kernel_rfl) (by kernel_rfl) (by kernel_rfl) (fun _ _ _ h => h) (Or.inl ⟨by rfl, ?yrd7⟩) hHeld ?_
        case yrd7 => intro w hSw; have h2 := hSw.2.1; go_simp
        simp only [Act.put, zp]
        refine wpAnyH_take (i := 8) (v := .pointer (some ⟨R, 0, Option.none⟩)) rfl (by kernel_rfl) (by kernel_rfl) (by kernel_rfl) (fun _ _ _ h => h) (Or.inl ⟨by rfl, ?yrd8⟩) hHeld ?_
        case yrd8 => intro w hSw; go_simp
        simp only [Act.put, zp]
        refine wpAnyH_take (i := 9) (v := .pointer (some ⟨R, 0, Option.none⟩)) rfl (by kernel_rfl) (by kernel_rfl) (by kernel_rfl) (fun _ _ _ h => h) (Or.inl ⟨by rfl, ?yrd9⟩) hHeld ?_
        case yrd9 => intro w hSw; go_simp
        simp only [Act.put, zp]
        refine wpAnyH_take (i := 10) (v := .pointer (some ⟨R, 3, Option.none⟩)) rfl (by kernel_rfl) (by kernel_rfl) (by kernel_rfl) (fun _ _ _ h => h) (Or.inl ⟨by rfl, ?yrd10⟩) hHeld ?_
        case yrd10 => intro w hSw; go_simp
        simp only [Act.put, zp]
        refine wpAnyH_take (i := 11) (v := .pointer (some ⟨R, 4, Option.none⟩)) rfl (by kernel_rfl) (by kernel_rfl) (by kernel_rfl) (fun _ _ _ h => h) (Or.inl ⟨by rfl, ?yrd11⟩) hHeld ?_
        case yrd11 => intro w hSw; go_simp
        simp only [Act.put, zp]
        refine wpAnyH_take (i := 12) (v := .slice a4 m4 b4) rfl (by kernel_rfl) (by kernel_rfl) (by kernel_rfl) (fun _ _ _ h => h) (Or.inl ⟨by rfl, ?yrd12⟩) hHeld ?_
        case yrd12 => intro w hSw; have h2 := hSw.2.2; go_simp
        simp only [Act.put, zp]
        refine wpAnyH_ready (rs := [13]) (by kernel_rfl) (by simp) ?_
        refine AllReadyH.cons rfl (fun K hK => ?_) AllReadyH.nil
        rw [if_pos (by rfl)]
        simp only [zq]
        go_wp2_with fail
        refine (varWords2_is _ _ ⟨_, _, _, rfl⟩ ⟨_, _, _, rfl⟩ W5).mono ?_
        rintro e w6 ⟨rfl, hb6, q0, q1⟩
        have P6 := hid (Pd.later hb6)
        have R6 := hid (Rd.later hb6)
        have hRW := lt_heap Rd.blk
        go_wp2_with fail
        refine hK.out _ _ ⟨rangeAt_later hHeld.1 hb6, keeps hb6 hHeld.2.1, keeps hb6 hHeld.2.2⟩ (fun hHeld => ?_)
        have NB := hid (NmC.base (R := R) (p := W5.heap.size) (q := W5.heap.size + 1) (ns := nmS 1 F []) (nv := .slice n1 (nmS 1 F []).length n2) (sv := .slice a4 m4 b4) (by have := OK.out.2.2.2; omega) (by omega) (by omega))
        have Q6 := hid (And.intro q0 q1)
        clear hb6 q0 q1 hK Pd Rd
        refine wpAnyH_ready (rs := [14]) (by kernel_rfl) (by simp) ?_
        refine AllReadyH.cons rfl (fun K hK => ?_) AllReadyH.nil
        rw [if_pos (by rfl)]
        simp only [zq]
        go_wp2_with fail
        refine (stmts_all (w0 := w) (R := R) (ts := ts) (ns := nmS 1 F []) (vn := (nmS 1 F []).length) (va := .slice a1 ts.length b1) (vb := .slice a2 (slen F) b2) (nv := .slice n1 (nmS 1 F []).length n2) (sa := .slice a3 rs.length b3) (sv := .slice a4 m4 b4) rfl (fuelN fuel + 1) F [] _ _ (run0 ts F fuel) rs _ w6 (.slice a2 (slen F) b2) OK.out.1 (by have := OK.out.2.2.1.2.1; omega) NB.out OK.out.2.1 (Nat.lt_succ_self _) R6.out Q6.out HV.out).mono ?_
        rintro e w7 ⟨rs7, so7, rfl, hR7, hk7, hs7⟩
        rw [← T0.out] at hR7 ⊢
        obtain ⟨en, st7⟩ := tot
        have R7 := hid hR7
        have P7 : Hid (PB w w7 (.slice a1 ts.length b1) (.slice a2 (slen F) b2)) := ⟨hk7 _ _ _ (by omega) (by decide) P6.out.p, hk7 _ _ _ (by omega) (by decide) P6.out.q, hR7.low⟩
        clear hk7 hs7 R6 P6 NB Q6
        go_wp2_with fail
        refine hK.out _ _ ⟨blk_range P7.out.p, hR7.cells.1, hR7.cells.2.2.1⟩ (fun hHeld => ?_)
        clear hK
        refine wpAnyH_take (i := 15) (v := .pointer (some ⟨R, 0, Option.none⟩)) rfl (by kernel_rfl) (by kernel_rfl) (by kernel_rfl) (fun _ _ _ h => h) (Or.inl ⟨by rfl, ?yre15⟩) hHeld ?_
        case yre15 => intro w hSw; go_simp
        simp only [Act.put, zp]
        refine wpAnyH_take (i := 16) (v := .pointer (some ⟨R, 3, Option.none⟩)) rfl (by kernel_rfl) (by kernel_rfl) (by kernel_rfl) (fun _ _ _ h => h) (Or.inl ⟨by rfl, ?yre16⟩) hHeld ?_
        case yre16 => intro w hSw; go_simp
        simp only [Act.put, zp]
        refine wpAnyH_take (i := 17) (v := .pointer (some ⟨R, 6, Option.none⟩)) rfl (by kernel_rfl) (by kernel_rfl) (by kernel_rfl) (fun _ _ _ h => h) (Or.inl ⟨by rfl, ?yre17⟩) hHeld ?_
        case yre17 => intro w hSw; go_simp
        simp only [Act.put, zp]
        refine wpAnyH_ready (rs := [18]) (by kernel_rfl) (by simp) ?_
        refine AllReadyH.cons rfl (fun K hK => ?_) AllReadyH.nil
        rw [if_pos (by rfl)]
        simp only [zq]
        have c6 : w7.cell? ⟨R, 6, Option.none⟩ = some (.int .i64 0) := by simp [World.cell?, hR7.blk]
        have f6 : w7.frozen? ⟨R, 6, Option.none⟩ = false := hR7.cells.2.2.2.2.2 6
        obtain ⟨E1, E2, E3, E4⟩ := RS.end_ (en := (en : Int)) hR7
        have P8 : PB w (w7.setCell ⟨R, 6, Option.none⟩ (.int .i64 (en : Int))) (.slice a1 ts.length b1) (.slice a2 (slen F) b2) := ⟨(Below.heap_setCell _ _ _ _ (by show w.heap.size ≠ R; omega)).trans P7.out.p, (Below.heap_setCell _ _ _ _ (by show w.heap.size + 1 ≠ R; omega)).trans P7.out.q, E3⟩
        have HE := hid (And.intro E1 (And.intro E2 (And.intro E3 E4)))
        have HP8 := hid P8
        have HA7 := hid hR7.a
        obtain ⟨a5, b5, e5⟩ := iownShape (hR7.own.own (so7, st7.O) (by simp))
        simp only at e5
        subst e5
        clear E1 E2 E3 E4 P8 hR7 R7 P7
        go_wp2_with fail
        refine hK.out _ _ ⟨blk_range HP8.out.p, by simp [World.cell?, HE.out.1], by simp [World.cell?, HE.out.1]⟩ (fun hHeld => ?_)
        refine wpAnyH_done (by kernel_rfl) ?_ _
        clear hHeld hK c6 f6
        obtain ⟨W8, hW8⟩ : ∃ W8, w7.setCell ⟨R, 6, Option.none⟩ (.int .i64 (en : Int)) = W8 := ⟨_, rfl⟩
        rw [hW8] at HE HP8 ⊢
        clear hW8
        have RG : Hid (W8.rangeAt R 3 [.slice a3 rs.length b3, .slice a4 m4 b4, .slice a5 st7.O.length b5, .int .i64 (en : Int)]) := rangeSub (cs := [.slice a1 ts.length b1, .slice a2 (slen F) b2, .slice n1 (nmS 1 F []).length n2]) (es := [.int .i64 (st7.f : Int)]) (blk_range HE.out.1)
        have TR : Hid (W8.there (w.heap.size + 1) 0 4) := blkNone HP8.out.q
        go_wp2_with (first | (refine wpList_load_mid rfl 33 _ rfl R 3 rfl _ _ RG.out Tryz.underlying33 rfl sizeSto ?_) | (refine store_abs rfl 33 _ _ rfl (w.heap.size + 1) 0 #[.slice a3 rs.length b3, .slice a4 m4 b4, .slice a5 st7.O.length b5, .int .i64 (en : Int)] rfl rfl TR.out sizeSto (one4 rfl rfl rfl rfl) ?_; intro W2 hW2))
        obtain ⟨e1, e2, e3⟩ := HE.out.2.1.put HP8.out.q (by omega) HE.out.2.2.2 hW2
        have hlv := run_loadVar_mid W2 (w.heap.size + 1) 0 _ _ _ (blk_range e3) Tryz.underlying33 rfl sizeSto
        refine bodyPost_ret (v := .agg #[.slice a3 rs.length b3, .slice a4 m4 b4, .slice a5 st7.O.length b5, .int .i64 (en : Int)]) ?_ rfl ⟨_, _, _, rs7, rfl, HA7.out, e1, HE.out.2.2.1.trans e2⟩
        simp [results, Tryz.results8, asAddr, hlv, Act.put]
        try rfl
      · have hfi : Hid ((fuelN fuel : Int) = fuel) := show _ = _ by rw [fuelN, if_pos (by omega)]; omega
        go_wp2_with fail
        have bd : Below w1.heap.size w1 w1.drew := (Below.refl _ w1).drew
        have Pd := P1.out.later bd
        clear bd P1
        obtain ⟨W1, hW1⟩ : ∃ W1, w1.drew = W1 := ⟨_, rfl⟩
        rw [hW1] at Pd
        refine wp_region_held_drew (S := fun w' => w'.rangeAt w.heap.size 0 [.slice a1 ts.length b1, .slice a2 (slen F) b2]) (by kernel_rfl) (by rw [hW1]; exact blk_range Pd.p) (fun hHeld => ?_)
        rw [hW1] at hHeld ⊢
        clear hW1
        refine wpAnyH_take (i := 0) (v := .agg ([.slice a1 ts.length b1, .slice a2 (slen F) b2] : List Value).toArray) rfl (by kernel_rfl) (by kernel_rfl) (by kernel_rfl) (fun _ _ _ h => h) (yieldsIf_load_mid (by rfl) 27 _ rfl (w.heap.size) (0) rfl [.slice a1 ts.length b1, .slice a2 (slen F) b2] _ (fun w h => h) Tryz.underlying27 rfl sizeProg2) hHeld ?_
        simp only [Act.put, zp]
        refine wpAnyH_take (i := 1) (v := .pointer (some ⟨w.heap.size, 1, Option.none⟩)) rfl (by kernel_rfl) (by kernel_rfl) (by kernel_rfl) (fun _ _ _ h => h) (Or.inl ⟨by rfl, ?zra1⟩) hHeld ?_
        case zra1 => intro w hSw; go_simp
        simp only [Act.put, zp]
        refine wpAnyH_take (i := 2) (v := .slice a2 (slen F) b2) rfl (by kernel_rfl) (by kernel_rfl) (by kernel_rfl) (fun _ _ _ h => h) (Or.inl ⟨by rfl, ?zra2⟩) hHeld ?_
        case zra2 => intro w hSw; have h2 := hSw 1 _ rfl; go_simp
        simp only [Act.put, zp]
        refine wpAnyH_take (i := 4) (v := .agg ([.slice a1 ts.length b1, .slice a2 (slen F) b2] : List Value).toArray) rfl (by kernel_rfl) (by kernel_rfl) (by kernel_rfl) (fun _ _ _ h => h) (yieldsIf_load_mid (by rfl) 27 _ rfl (w.heap.size) (0) rfl [.slice a1 ts.length b1, .slice a2 (slen F) b2] _ (fun w h => h) Tryz.underlying27 rfl sizeProg2) hHeld ?_
        simp only [Act.put, zp]
        refine wpAnyH_take (i := 6) (v := .int .i64 fuel) rfl (by kernel_rfl) (by kernel_rfl) (by kernel_rfl) (fun _ _ _ h => h) (Or.inl ⟨by rfl, ?zra6⟩) hHeld ?_
        case zra6 => intro w hSw; go_simp
        simp only [Act.put, zp]
        refine wpAnyH_ready (rs := [3]) (by kernel_rfl) (by simp) ?_
        refine AllReadyH.cons rfl (fun K hK => ?_) AllReadyH.nil
        rw [if_pos (by rfl)]
        simp only [zq]
        go_wp2_with fail
        refine (HVO.out _ _ (HV.out.later Pd.b)).mono ?_
        rintro e w2 ⟨nv, rfl, hown2, hb2⟩
        have P2 := hid (Pd.later hb2)
        have N2 := hid (own_lower hown2 Pd.b.size)
        obtain ⟨n1, n2, rfl⟩ := iownShape hown2
        go_wp2_with fail
        refine hK.out _ _ (rangeAt_later hHeld hb2) (fun hHeld => ?_)
        clear hb2 hown2 hK Pd
        refine wpAnyH_ready (rs := [5]) (by kernel_rfl) (by simp) ?_
        refine AllReadyH.cons rfl (fun K hK => ?_) AllReadyH.nil
        rw [if_pos (by rfl)]
        simp only [zq]
        go_wp2_with fail
        refine (impl_StoNew ts F (nmS 1 F []).length (by have := OK.out.2.2.2; omega) HB.out.1 (.slice a1 ts.length b1) (.slice a2 (slen F) b2) w2 (HA.out.later P2.out.b) (HV.out.later P2.out.b) (fun w v hv => (HVO.out w v hv).mono fun e w' ⟨u, h1, h2, h3⟩ => by obtain ⟨p, q, e⟩ := iownShape h2; subst e; exact ⟨p, q, h1, h3⟩)).mono ?_
        rintro e w3 ⟨ua, uv, rs, rfl, hz, hso, hb3⟩
        have P3 := hid (P2.out.later hb3)
        have N3 := hid (ownB N2.out hb3)
        have S3 := hid (hso.lower P2.out.b.size)
        have HZ := hid hz
        obtain ⟨a3, b3, e3⟩ := iownShape hso.out
        obtain ⟨a4, b4, e4⟩ := iownShape (hso.own.own (uv, List.replicate (nmS 1 F []).length 0) (by simp))
        simp only at e4
        subst e3; subst e4
        obtain ⟨m4, hm4⟩ : ∃ m4, (List.replicate (nmS 1 F []).length (0 : Int)).length = m4 := ⟨_, rfl⟩
        rw [hm4] at S3 ⊢
        go_wp2_with fail
        refine hK.out _ _ (rangeAt_later hHeld hb3) (fun hHeld => ?_)
        clear hb3 hso hz hK P2 N2
        refine wpAnyH_take (i := 7) (v := .agg #[.slice a1 ts.length b1, .slice a2 (slen F) b2, .slice n1 (nmS 1 F []).length n2, .slice a3 rs.length b3, .slice a4 m4 b4, .slice Option.none 0 0, .int .i64 0, .int .i64 fuel]) rfl (by kernel_rfl) (by kernel_rfl) (by kernel_rfl) (fun _ _ _ h => h) (Or.inl ⟨by rfl, ?zrb7⟩) hHeld ?_
        case zrb7 => intro w hSw; go_simp
        simp only [Act.put, zp]
        refine wpAnyH_ready (rs := [8]) (by kernel_rfl) (by simp) ?_
        refine AllReadyH.cons rfl (fun K hK => ?_) AllReadyH.nil
        rw [if_pos (by rfl)]
        simp only [zq]
        go_wp2_with fail
        have hbA := alloc_below w3 (.cells #[.slice a1 ts.length b1, .slice a2 (slen F) b2, .slice n1 (nmS 1 F []).length n2, .slice a3 rs.length b3, .slice a4 m4 b4, .slice Option.none 0 0, .int .i64 0, .int .i64 fuel] 70)
        have hbl := blkLast w3 (.cells #[.slice a1 ts.length b1, .slice a2 (slen F) b2, .slice n1 (nmS 1 F []).length n2, .slice a3 rs.length b3, .slice a4 m4 b4, .slice Option.none 0 0, .int .i64 0, .int .i64 fuel] 70)
        refine hK.out _ _ (rangeAt_later hHeld hbA) (fun hHeld => ?_)
        refine wpAnyH_take (i := 9) (v := .pointer (some ⟨w3.heap.size, 0, Option.none⟩)) rfl (by kernel_rfl) (by kernel_rfl) (by kernel_rfl) (fun _ _ _ h => h) (Or.inl ⟨by rfl, ?zrc9⟩) hHeld ?_
        case zrc9 => intro w hSw; go_simp
        simp only [Act.put, zp]
        refine wpAnyH_done (by kernel_rfl) ?_ _
        clear hHeld hK
        have P4 := hid (P3.out.later hbA)
        have R4 : Hid (RS w (w3.alloc (.cells #[.slice a1 ts.length b1, .slice a2 (slen F) b2, .slice n1 (nmS 1 F []).length n2, .slice a3 rs.length b3, .slice a4 m4 b4, .slice Option.none 0 0, .int .i64 0, .int .i64 fuel] 70)) w3.heap.size ts (nmS 1 F []) rs (run0 ts F fuel) (.slice a1 ts.length b1) (.slice a2 (slen F) b2) (.slice n1 (nmS 1 F []).length n2) (.slice a3 rs.length b3) (.slice a4 m4 b4) (.slice Option.none 0 0)) :=
          ⟨by rw [show ((run0 ts F fuel).f : Int) = fuel from hfi.out]; exact hbl, ownB S3.out.out hbA, S3.out.own.later hbA, HZ.out, ownB N3.out hbA, HA.out, P4.out.b, P3.out.b.size, P4.out.b.size⟩
        obtain ⟨W4, hW4⟩ : ∃ W4, w3.alloc (.cells #[.slice a1 ts.length b1, .slice a2 (slen F) b2, .slice n1 (nmS 1 F []).length n2, .slice a3 rs.length b3, .slice a4 m4 b4, .slice Option.none 0 0, .int .i64 0, .int .i64 fuel] 70) = W4 := ⟨_, rfl⟩
        obtain ⟨R, hR⟩ : ∃ R, w3.heap.size = R := ⟨_, rfl⟩
        have hRl : w.heap.size + 1 < R := by have := lt_heap P3.out.q; omega
        rw [hW4, hR] at R4
        rw [hW4] at P4
        rw [hW4, hR]
        clear hbA hbl hW4 hR P3 S3 N3 hm4
        go_wp2_with fail
        have bd : Below W4.heap.size W4 W4.drew := (Below.refl _ W4).drew
        have Rd := R4.out.later bd
        have Pd := P4.out.later bd
        clear bd R4 P4
        obtain ⟨W5, hW5⟩ : ∃ W5, W4.drew = W5 := ⟨_, rfl⟩
        rw [hW5] at Pd Rd
        refine wp_region_held_drew (S := fun w' => w'.rangeAt w.heap.size 0 [.slice a1 ts.length b1, .slice a2 (slen F) b2] ∧ w'.cell? ⟨R, 2, Option.none⟩ = some (.slice n1 (nmS 1 F []).length n2) ∧ w'.cell? ⟨R, 4, Option.none⟩ = some (.slice a4 m4 b4)) (by kernel_rfl) (by rw [hW5]; exact ⟨blk_range Pd.p, Rd.cells.1, Rd.cells.2.2.1⟩) (fun hHeld => ?_)
        rw [hW5] at hHeld ⊢
        clear hW5
        refine wpAnyH_take (i := 0) (v := .pointer (some ⟨R, 0, Option.none⟩)) rfl (by kernel_rfl) (by kernel_rfl) (by kernel_rfl) (fun _ _ _ h => h) (Or.inl ⟨by rfl, ?zrd0⟩) hHeld ?_
        case zrd0 => intro w hSw; go_simp
        simp only [Act.put, zp]
        refine wpAnyH_take (i := 1) (v := .pointer (some ⟨R, 0, Option.none⟩)) rfl (by kernel_rfl) (by kernel_rfl) (by kernel_rfl) (fun _ _ _ h => h) (Or.inl ⟨by rfl, ?zrd1⟩) hHeld ?_
        case zrd1 => intro w hSw; go_simp
        simp only [Act.put, zp]
        refine wpAnyH_take (i := 2) (v := .pointer (some ⟨w.heap.size, 1, Option.none⟩)) rfl (by kernel_rfl) (by kernel_rfl) (by kernel_rfl) (fun _ _ _ h => h) (Or.inl ⟨by rfl, ?zrd2⟩) hHeld ?_
        case zrd2 => intro w hSw; go_simp
        simp only [Act.put, zp]
        refine wpAnyH_take (i := 3) (v := .slice a2 (slen F) b2) rfl (by kernel_rfl) (by kernel_rfl) (by kernel_rfl) (fun _ _ _ h => h) (Or.inl ⟨by rfl, ?zrd3⟩) hHeld ?_
        case zrd3 => intro w hSw; have h2 := hSw.1 1 _ rfl; go_simp
        simp only [Act.put, zp]
        refine wpAnyH_take (i := 4) (v := .pointer (some ⟨R, 0, Option.none⟩)) rfl (by kernel_rfl) (by kernel_rfl) (by kernel_rfl) (fun _ _ _ h => h) (Or.inl ⟨by rfl, ?zrd4⟩) hHeld ?_
        case zrd4 => intro w hSw; go_simp
        simp only [Act.put, zp]
        refine wpAnyH_take (i := 5) (v := .pointer (some ⟨R, 0, Option.none⟩)) rfl (by kernel_rfl) (by kernel_rfl) (by kernel_rfl) (fun _ _ _ h => h) (Or.inl ⟨by rfl, ?zrd5⟩) hHeld ?_
        case zrd5 => intro w hSw; go_simp
        simp only [Act.put, zp]
        refine wpAnyH_take (i := 6) (v := .pointer (some ⟨R, 2, Option.none⟩)) rfl (by kernel_rfl) (by kernel_rfl) (by kernel_rfl) (fun _ _ _ h => h) (Or.inl ⟨by rfl, ?zrd6⟩) hHeld ?_
        case zrd6 => intro w hSw; go_simp
        simp only [Act.put, zp]
        refine wpAnyH_take (i := 7) (v := .slice n1 (nmS 1 F []).length n2) rfl (by kernel_rfl) (by kernel_rfl) (by kernel_rfl) (fun _ _ _ h => h) (Or.inl ⟨by rfl, ?zrd7⟩) hHeld ?_
        case zrd7 => intro w hSw; have h2 := hSw.2.1; go_simp
        simp only [Act.put, zp]
        refine wpAnyH_take (i := 8) (v := .pointer (some ⟨R, 0, Option.none⟩)) rfl (by kernel_rfl) (by kernel_rfl) (by kernel_rfl) (fun _ _ _ h => h) (Or.inl ⟨by rfl, ?zrd8⟩) hHeld ?_
        case zrd8 => intro w hSw; go_simp
        simp only [Act.put, zp]
        refine wpAnyH_take (i := 9) (v := .pointer (some ⟨R, 0, Option.none⟩)) rfl (by kernel_rfl) (by kernel_rfl) (by kernel_rfl) (fun _ _ _ h => h) (Or.inl ⟨by rfl, ?zrd9⟩) hHeld ?_
        case zrd9 => intro w hSw; go_simp
        simp only [Act.put, zp]
        refine wpAnyH_take (i := 10) (v := .pointer (some ⟨R, 3, Option.none⟩)) rfl (by kernel_rfl) (by kernel_rfl) (by kernel_rfl) (fun _ _ _ h => h) (Or.inl ⟨by rfl, ?zrd10⟩) hHeld ?_
        case zrd10 => intro w hSw; go_simp
        simp only [Act.put, zp]
        refine wpAnyH_take (i := 11) (v := .pointer (some ⟨R, 4, Option.none⟩)) rfl (by kernel_rfl) (by kernel_rfl) (by kernel_rfl) (fun _ _ _ h => h) (Or.inl ⟨by rfl, ?zrd11⟩) hHeld ?_
        case zrd11 => intro w hSw; go_simp
        simp only [Act.put, zp]
        refine wpAnyH_take (i := 12) (v := .slice a4 m4 b4) rfl (by kernel_rfl) (by kernel_rfl) (by kernel_rfl) (fun _ _ _ h => h) (Or.inl ⟨by rfl, ?zrd12⟩) hHeld ?_
        case zrd12 => intro w hSw; have h2 := hSw.2.2; go_simp
        simp only [Act.put, zp]
        refine wpAnyH_ready (rs := [13]) (by kernel_rfl) (by simp) ?_
        refine AllReadyH.cons rfl (fun K hK => ?_) AllReadyH.nil
        rw [if_pos (by rfl)]
        simp only [zq]
        go_wp2_with fail
        refine (varWords2_is _ _ ⟨_, _, _, rfl⟩ ⟨_, _, _, rfl⟩ W5).mono ?_
        rintro e w6 ⟨rfl, hb6, q0, q1⟩
        have P6 := hid (Pd.later hb6)
        have R6 := hid (Rd.later hb6)
        have hRW := lt_heap Rd.blk
        go_wp2_with fail
        refine hK.out _ _ ⟨rangeAt_later hHeld.1 hb6, keeps hb6 hHeld.2.1, keeps hb6 hHeld.2.2⟩ (fun hHeld => ?_)
        have NB := hid (NmC.base (R := R) (p := W5.heap.size) (q := W5.heap.size + 1) (ns := nmS 1 F []) (nv := .slice n1 (nmS 1 F []).length n2) (sv := .slice a4 m4 b4) (by have := OK.out.2.2.2; omega) (by omega) (by omega))
        have Q6 := hid (And.intro q0 q1)
        clear hb6 q0 q1 hK Pd Rd
        refine wpAnyH_ready (rs := [14]) (by kernel_rfl) (by simp) ?_
        refine AllReadyH.cons rfl (fun K hK => ?_) AllReadyH.nil
        rw [if_pos (by rfl)]
        simp only [zq]
        go_wp2_with fail
        refine (stmts_all (w0 := w) (R := R) (ts := ts) (ns := nmS 1 F []) (vn := (nmS 1 F []).length) (va := .slice a1 ts.length b1) (vb := .slice a2 (slen F) b2) (nv := .slice n1 (nmS 1 F []).length n2) (sa := .slice a3 rs.length b3) (sv := .slice a4 m4 b4) rfl (fuelN fuel + 1) F [] _ _ (run0 ts F fuel) rs _ w6 (.slice a2 (slen F) b2) OK.out.1 (by have := OK.out.2.2.1.2.1; omega) NB.out OK.out.2.1 (Nat.lt_succ_self _) R6.out Q6.out HV.out).mono ?_
        rintro e w7 ⟨rs7, so7, rfl, hR7, hk7, hs7⟩
        rw [← T0.out] at hR7 ⊢
        obtain ⟨en, st7⟩ := tot
        have R7 := hid hR7
        have P7 : Hid (PB w w7 (.slice a1 ts.length b1) (.slice a2 (slen F) b2)) := ⟨hk7 _ _ _ (by omega) (by decide) P6.out.p, hk7 _ _ _ (by omega) (by decide) P6.out.q, hR7.low⟩
        clear hk7 hs7 R6 P6 NB Q6
        go_wp2_with fail
        refine hK.out _ _ ⟨blk_range P7.out.p, hR7.cells.1, hR7.cells.2.2.1⟩ (fun hHeld => ?_)
        clear hK
        refine wpAnyH_take (i := 15) (v := .pointer (some ⟨R, 0, Option.none⟩)) rfl (by kernel_rfl) (by kernel_rfl) (by kernel_rfl) (fun _ _ _ h => h) (Or.inl ⟨by rfl, ?zre15⟩) hHeld ?_
        case zre15 => intro w hSw; go_simp
        simp only [Act.put, zp]
        refine wpAnyH_take (i := 16) (v := .pointer (some ⟨R, 3, Option.none⟩)) rfl (by kernel_rfl) (by kernel_rfl) (by kernel_rfl) (fun _ _ _ h => h) (Or.inl ⟨by rfl, ?zre16⟩) hHeld ?_
        case zre16 => intro w hSw; go_simp
        simp only [Act.put, zp]
        refine wpAnyH_take (i := 17) (v := .pointer (some ⟨R, 6, Option.none⟩)) rfl (by kernel_rfl) (by kernel_rfl) (by kernel_rfl) (fun _ _ _ h => h) (Or.inl ⟨by rfl, ?zre17⟩) hHeld ?_
        case zre17 => intro w hSw; go_simp
        simp only [Act.put, zp]
        refine wpAnyH_ready (rs := [18]) (by kernel_rfl) (by simp) ?_
        refine AllReadyH.cons rfl (fun K hK => ?_) AllReadyH.nil
        rw [if_pos (by rfl)]
        simp only [zq]
        have c6 : w7.cell? ⟨R, 6, Option.none⟩ = some (.int .i64 0) := by simp [World.cell?, hR7.blk]
        have f6 : w7.frozen? ⟨R, 6, Option.none⟩ = false := hR7.cells.2.2.2.2.2 6
        obtain ⟨E1, E2, E3, E4⟩ := RS.end_ (en := (en : Int)) hR7
        have P8 : PB w (w7.setCell ⟨R, 6, Option.none⟩ (.int .i64 (en : Int))) (.slice a1 ts.length b1) (.slice a2 (slen F) b2) := ⟨(Below.heap_setCell _ _ _ _ (by show w.heap.size ≠ R; omega)).trans P7.out.p, (Below.heap_setCell _ _ _ _ (by show w.heap.size + 1 ≠ R; omega)).trans P7.out.q, E3⟩
        have HE := hid (And.intro E1 (And.intro E2 (And.intro E3 E4)))
        have HP8 := hid P8
        have HA7 := hid hR7.a
        obtain ⟨a5, b5, e5⟩ := iownShape (hR7.own.own (so7, st7.O) (by simp))
        simp only at e5
        subst e5
        clear E1 E2 E3 E4 P8 hR7 R7 P7
        go_wp2_with fail
        refine hK.out _ _ ⟨blk_range HP8.out.p, by simp [World.cell?, HE.out.1], by simp [World.cell?, HE.out.1]⟩ (fun hHeld => ?_)
        refine wpAnyH_done (by kernel_rfl) ?_ _
        clear hHeld hK c6 f6
        obtain ⟨W8, hW8⟩ : ∃ W8, w7.setCell ⟨R, 6, Option.none⟩ (.int .i64 (en : Int)) = W8 := ⟨_, rfl⟩
        rw [hW8] at HE HP8 ⊢
        clear hW8
        have RG : Hid (W8.rangeAt R 3 [.slice a3 rs.length b3, .slice a4 m4 b4, .slice a5 st7.O.length b5, .int .i64 (en : Int)]) := rangeSub (cs := [.slice a1 ts.length b1, .slice a2 (slen F) b2, .slice n1 (nmS 1 F []).length n2]) (es := [.int .i64 (st7.f : Int)]) (blk_range HE.out.1)
        have TR : Hid (W8.there (w.heap.size + 1) 0 4) := blkNone HP8.out.q
        go_wp2_with (first | (refine wpList_load_mid rfl 33 _ rfl R 3 rfl _ _ RG.out Tryz.underlying33 rfl sizeSto ?_) | (refine store_abs rfl 33 _ _ rfl (w.heap.size + 1) 0 #[.slice a3 rs.length b3, .slice a4 m4 b4, .slice a5 st7.O.length b5, .int .i64 (en : Int)] rfl rfl TR.out sizeSto (one4 rfl rfl rfl rfl) ?_; intro W2 hW2))
        obtain ⟨e1, e2, e3⟩ := HE.out.2.1.put HP8.out.q (by omega) HE.out.2.2.2 hW2
        have hlv := run_loadVar_mid W2 (w.heap.size + 1) 0 _ _ _ (blk_range e3) Tryz.underlying33 rfl sizeSto
        refine bodyPost_ret (v := .agg #[.slice a3 rs.length b3, .slice a4 m4 b4, .slice a5 st7.O.length b5, .int .i64 (en : Int)]) ?_ rfl ⟨_, _, _, rs7, rfl, HA7.out, e1, HE.out.2.2.1.trans e2⟩
        simp [results, Tryz.results8, asAddr, hlv, Act.put]
        try rfl
end Go.Proofs.YtfoghiminlbdaaaGreat
