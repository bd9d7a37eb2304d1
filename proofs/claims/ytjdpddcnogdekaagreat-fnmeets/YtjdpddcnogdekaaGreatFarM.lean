/-
  farthest of the landed code, by the greater end.
-/
import Derived.Test.YtjdpddcnogdekaaGreatP20ofMx
namespace Go.Proofs.YtjdpddcnogdekaaGreat
open Go.RowKit Go.Lib Go.Shelf
set_option linter.unusedSimpArgs false
set_option linter.unusedVariables false

attribute [local go_sem] Oper.semAt_some

set_option maxRecDepth 100000 in
set_option maxHeartbeats 4000000 in
theorem far_most (c : Int) (ts : List AR) (hn : ts.length ≤ 1000000000) (rs : List RG) (hm : rs.length ≤ 1000000000) (va vb : Value) (w : World) (ha : AV w 0 va ts) (hb : RV w 0 vb rs) :
    Calls Tryz.prog 79 #[.agg #[.int .i64 c, va], vb, .func (.func 81) #[] #[]] w fun e w' => e = farR9 (far9 true c ts rs) ∧ Below w.heap.size w w' := by
  refine (callsIn_wide (n := 3)).1 ?_
  refine callsIn_of_wp_marks Tryz.func79 rfl trivial ?_ rfl
  simp only [Tryz.ntmps79, List.size_toArray, List.length_cons, List.length_nil, Nat.reduceAdd, Nat.reduceSub, Array.replicate_succ, Array.replicate_zero, List.push_toArray, List.append_toArray, List.nil_append, List.cons_append]
  have hB0 : Below w.heap.size w ((w.alloc (.cells #[.int .i64 c, va] 26)).alloc (.cells #[.func (.func 81) #[] #[]] 71)) := (alloc_below w _).alloc (by simp) _
  obtain ⟨z0, z1⟩ := heap2q w (.cells #[.int .i64 c, va] 26) (.cells #[.func (.func 81) #[] #[]] 71)
  have HA := Lib.hid (And.intro ha hb)
  have B0 := Lib.hid hB0
  have Z := Lib.hid (And.intro z0 z1)
  have hvs := hb.shape
  obtain ⟨bo, bcap, rfl⟩ := hvs
  obtain ⟨ao, acap, rfl⟩ := ha.shape
  clear ha hb hB0 z0 z1
  cases hk : affOk8 c ts with
  | false =>
    have R : Hid (far9 true c ts rs = none) := show far9 true c ts rs = none by rw [far9, hk]; rfl
    have HK := Lib.hid hk
    clear hk
    gi_wp2_with fail
    refine ⟨trivial, (callsIn_wide.2 (impl_AffOk c ts hn _ _ (HA.out.1.later B0.out) false HK.out)).mono ?_⟩
    rintro e w1 ⟨rfl, hb1⟩
    have B1 := Lib.hid (B0.out.trans (hb1.mono B0.out.size))
    clear hb1 Z
    gi_wp2_with (refine ⟨trivial, ?_⟩)
    exact ⟨.tuple #[.int .i64 0, .bool false], by simp [results, Tryz.f79, go_sem], by rw [R.out]; rfl, B1.out⟩
  | true =>
    have HK := Lib.hid hk
    have HM := Lib.hid (okFrom8_mem none ts (by have := hk; simp only [affOk8, Bool.and_eq_true] at this; exact this.2))
    cases hw : waysOk9 rs with
    | false =>
      have R : Hid (far9 true c ts rs = none) := show far9 true c ts rs = none by rw [far9, hk, hw]; rfl
      have HW := Lib.hid hw
      clear hk hw
      gi_wp2_with fail
      refine ⟨trivial, (callsIn_wide.2 (impl_AffOk c ts hn _ _ (HA.out.1.later B0.out) true HK.out)).mono ?_⟩
      rintro e w1 ⟨rfl, hb1⟩
      have B1 := Lib.hid (B0.out.trans (hb1.mono B0.out.size))
      clear hb1 Z
      gi_wp2_with fail
      refine ⟨trivial, (callsIn_wide.2 (hasWays_is rs hm _ _ (HA.out.2.later B1.out) false HW.out)).mono ?_⟩
      rintro e w2 ⟨rfl, hb1⟩
      have B2 := Lib.hid (B1.out.trans (hb1.mono B1.out.size))
      clear hb1
      gi_wp2_with (refine ⟨trivial, ?_⟩)
      exact ⟨.tuple #[.int .i64 0, .bool false], by simp [results, Tryz.f79, go_sem], by rw [R.out]; rfl, B2.out⟩
    | true =>
      have HW := Lib.hid hw
      have HF := Lib.hid (fit_of hw)
      cases hq : (ts.all fun t => hasR9 rs t.s) with
      | false =>
        have R : Hid (far9 true c ts rs = none) := show far9 true c ts rs = none by rw [far9, hk, hw, hq]; rfl
        have HQ := Lib.hid hq
        clear hk hw hq
        gi_wp2_with fail
        refine ⟨trivial, (callsIn_wide.2 (impl_AffOk c ts hn _ _ (HA.out.1.later B0.out) true HK.out)).mono ?_⟩
        rintro e w1 ⟨rfl, hb1⟩
        have B1 := Lib.hid (B0.out.trans (hb1.mono B0.out.size))
        have z1 := Lib.hid ((hb1.block _ (Array.getElem?_eq_some_iff.1 Z.out.1).1).trans Z.out.1)
        clear hb1 Z
        gi_wp2_with fail
        refine ⟨trivial, (callsIn_wide.2 (hasWays_is rs hm _ _ (HA.out.2.later B1.out) true HW.out)).mono ?_⟩
        rintro e w2 ⟨rfl, hb1⟩
        have B2 := Lib.hid (B1.out.trans (hb1.mono B1.out.size))
        have z2 := (hb1.block _ (Array.getElem?_eq_some_iff.1 z1.out).1).trans z1.out
        obtain ⟨⟨y0, y1⟩, _⟩ := blk2 z2
        clear hb1 z1 z2
        gi_wp2_with fail
        refine ⟨trivial, (callsIn_wide.2 (namesWithin_is c ts hn rs hm _ _ _ (HA.out.1.later B2.out) (HA.out.2.later B2.out) false HQ.out)).mono ?_⟩
        rintro e w3 ⟨rfl, hb1⟩
        have B3 := Lib.hid (B2.out.trans (hb1.mono B2.out.size))
        clear hb1 y0 y1
        gi_wp2
        exact ⟨.tuple #[.int .i64 0, .bool false], by simp [results, Tryz.f79, go_sem], by rw [R.out]; rfl, B3.out⟩
      | true =>
        have HO := Lib.hid (show okFrom8 none ts = true by have := hk; simp only [affOk8, Bool.and_eq_true] at this; exact this.2)
        have HC : Hid (-100000 ≤ c ∧ c ≤ 100000) := by have := hk; simp [affOk8, inMax8] at this; exact this.1
        have R : Hid (far9 true c ts rs = some (IntKind.i64.wrap (c + sumP9 true (rs.map (en9 ts))))) := show far9 true c ts rs = _ by rw [far9, hk, hw, hq, sumP9_ends true ts rs HF.out, sum_swap9 true rs (dist_of hw) none ts HO.out hq]; rfl
        have HQ := Lib.hid hq
        clear hk hw hq
        gi_wp2_with fail
        refine ⟨trivial, (callsIn_wide.2 (impl_AffOk c ts hn _ _ (HA.out.1.later B0.out) true HK.out)).mono ?_⟩
        rintro e w1 ⟨rfl, hb1⟩
        have B1 := Lib.hid (B0.out.trans (hb1.mono B0.out.size))
        have Z1 := Lib.hid (And.intro ((hb1.block _ (Array.getElem?_eq_some_iff.1 Z.out.1).1).trans Z.out.1) ((hb1.block _ (Array.getElem?_eq_some_iff.1 Z.out.2).1).trans Z.out.2))
        clear hb1 Z
        gi_wp2_with fail
        refine ⟨trivial, (callsIn_wide.2 (hasWays_is rs hm _ _ (HA.out.2.later B1.out) true HW.out)).mono ?_⟩
        rintro e w2 ⟨rfl, hb1⟩
        have B2 := Lib.hid (B1.out.trans (hb1.mono B1.out.size))
        have Z2 := Lib.hid (And.intro ((hb1.block _ (Array.getElem?_eq_some_iff.1 Z1.out.1).1).trans Z1.out.1) ((hb1.block _ (Array.getElem?_eq_some_iff.1 Z1.out.2).1).trans Z1.out.2))
        obtain ⟨⟨y0, y1⟩, _⟩ := blk2 Z2.out.1
        clear hb1 Z1
        gi_wp2_with fail
        refine ⟨trivial, (callsIn_wide.2 (namesWithin_is c ts hn rs hm _ _ _ (HA.out.1.later B2.out) (HA.out.2.later B2.out) true HQ.out)).mono ?_⟩
        rintro e w3 ⟨rfl, hb1⟩
        have B3 := Lib.hid (B2.out.trans (hb1.mono B2.out.size))
        have Z3 := Lib.hid (And.intro ((hb1.block _ (Array.getElem?_eq_some_iff.1 Z2.out.1).1).trans Z2.out.1) ((hb1.block _ (Array.getElem?_eq_some_iff.1 Z2.out.2).1).trans Z2.out.2))
        obtain ⟨⟨x0, x1⟩, _⟩ := blk2 Z3.out.1
        have x0' := keeps (alloc_below w3 (.cells #[.int .i64 c] 3)) x0
        have x1' := keeps (alloc_below w3 (.cells #[.int .i64 c] 3)) x1
        clear hb1 Z2 y0 y1 x1
        gi_wp2_with fail
        refine ⟨trivial, (endsOf_in _ c _ _ _ _ _).mono ?_⟩
        rintro e w4 ⟨rfl, hw4⟩
        gi_wp2_with fail
        have hB4 : Below w.heap.size w (((w3.alloc (.cells #[.int .i64 c] 3)).alloc (.cells #[.int .i64 c, .slice ao ts.length acap] 26)).alloc (.cells #[.slice bo rs.length bcap] 27)) := B3.out.trans ((((alloc_below w3 _).alloc (by simp) _).alloc (by simp; omega) _).mono B3.out.size)
        obtain ⟨d0, d1, d2⟩ := heap3 w3 (.cells #[.int .i64 c] 3) (.cells #[.int .i64 c, .slice ao ts.length acap] 26) (.cells #[.slice bo rs.length bcap] 27)
        have hz1 := (((alloc_below w3 (.cells #[.int .i64 c] 3)).alloc (by simp) (.cells #[.int .i64 c, .slice ao ts.length acap] 26)).alloc (by simp; omega) (.cells #[.slice bo rs.length bcap] 27)).block _ (Array.getElem?_eq_some_iff.1 Z3.out.2).1 |>.trans Z3.out.2
        have hsz : w4.heap.size = w3.heap.size + 3 := by rw [hw4]; simp
        rw [← hw4] at hB4 d0 d1 d2 hz1 ⊢
        have hwn : w.heap.size + 1 < w3.heap.size := (Array.getElem?_eq_some_iff.1 Z3.out.2).1
        clear hw4 x0 x0' x1'
        obtain ⟨⟨v0, v1⟩, _⟩ := blk2 d1
        have hc2 : w4.cell? ⟨w3.heap.size + 1 + 1, 0, Option.none⟩ = some (.slice bo rs.length bcap) := by simp [World.cell?, d2]
        have hAn : ∀ k, (Value.slice ao ts.length acap).ownBlock = some k → ts ≠ [] → k < w3.heap.size := fun k hk hne => by
          obtain ⟨ao', cap', e, h⟩ := HA.out.1
          injection e with e
          subst e
          rcases h with h | ⟨g, off, e1, _, e3, _⟩
          · exact absurd h hne
          · rw [e1] at hk; injection hk with hk; have h1 : g = k := hk; have h2 : g < w.heap.size := e3; omega
        have hRn : ∀ k, (Value.slice bo rs.length bcap).ownBlock = some k → rs ≠ [] → k < w3.heap.size := fun k hk hne => by
          obtain ⟨ao', cap', e, _, h⟩ := HA.out.2
          injection e with e
          subst e
          rcases h with h | ⟨g, off, e1, _, e3, _⟩
          · exact absurd h hne
          · rw [e1] at hk; injection hk with hk; have h1 : g = k := hk; have h2 : g < w.heap.size := e3; omega
        refine wpIn_rangeFunc_ownH rfl (by omega) (gf := 98) (lb := #[.pointer (some ⟨w3.heap.size + 1 + 1, 0, Option.none⟩), .pointer (some ⟨w3.heap.size + 1, 0, Option.none⟩)]) rfl trivial (enters_of Tryz.func98 (by kernel_rfl) rfl)
          (encs := encs9) (Kp := K9 (w3.heap.size + 3) w3.heap.size) (S := fun ys => ys = rs.map (en9 ts)) (Sp := fun _ => True) (N := rs.length) (w0 := w4)
          (fun l J Jx W hW hA1 hA2 hY h0 => ends_in l (w3.heap.size + 1 + 1) (w3.heap.size + 1) (w3.heap.size + 3) w3.heap.size c ts hn HM.out rs hm HF.out _ _ J Jx W (by have := hW.size; omega) hA1 hY (keeps hW hc2) (keeps hW v0) (keeps hW v1) ⟨by omega, by omega⟩ ⟨by omega, by omega⟩ ((HA.out.1.later hB4).later hW) (fun k hk hne => by have := hAn k hk hne; omega) ((HA.out.2.later hB4).later hW) (fun k hk hne => by have := hRn k hk hne; omega) h0)
          (fun h k => h.trans k) (fun W l o o' hl h h1 h2 => K9.of (belowK_b (w := w4) (by omega) W l o o' hl h h1 h2)) (Below.refl _ _) (fun _ => rfl)
          (fun pre W => W.heap[w3.heap.size]? = some (.cells #[.int .i64 (IntKind.i64.wrap (c + sumP9 true pre))] 3 (0, 0)) ∧ (W.heap[w.heap.size + 1]? = some (.cells #[.func (.func 81) #[] #[]] 71 (0, 0)) ∧ Below w.heap.size w W))
          (fun _ _ _ => False)
          (fun s W W' row hs hg hr => ⟨ownC (β := Unit) () W W' row hs.1 hg hr, ownC (β := Unit) () W W' row hs.2.1 hg hr, ownFrom_below (Nat.le_refl _) (by omega) () W W' row hs.2.2 hg hr⟩)
          (fun _ _ _ _ _ hs _ _ => hs)
          ⟨by rw [d0]; show some (Obj.cells #[Value.int .i64 c] _ _) = some (Obj.cells #[Value.int .i64 (IntKind.i64.wrap (c + 0))] _ _); rw [show IntKind.i64.wrap (c + 0) = c by have := HC.out; rw [IntKind.wrap_i64]; omega], hz1, hB4⟩
          (fun x a' W => a' = { tmps := #[.agg #[.int .i64 c, .slice ao ts.length acap], .slice bo rs.length bcap, .func (.func 81) #[] #[], .pointer (some ⟨w.heap.size, 0, Option.none⟩), undef, .pointer (some ⟨w.heap.size + 1, 0, Option.none⟩), .int .i64 0, .bool false, .pointer (some ⟨w3.heap.size, 0, Option.none⟩), .int .i64 x.1, .int .i64 x.2, .agg #[.int .i64 c, .slice ao ts.length acap], .bool true, .bool false, .bool false, .slice bo rs.length bcap, .bool true, .bool false, .bool false, .bool false, .agg #[.int .i64 c, .slice ao ts.length acap], .slice bo rs.length bcap, .bool true, .bool false, .bool false, .pointer (some ⟨w.heap.size, 0, Option.none⟩), .int .i64 c, .agg #[.int .i64 c, .slice ao ts.length acap], .slice bo rs.length bcap, .func (.func 98) #[] #[.pointer (some ⟨w3.heap.size + 1 + 1, 0, Option.none⟩), .pointer (some ⟨w3.heap.size + 1, 0, Option.none⟩)], .int .i64 x.1, .int .i64 x.2, undef, undef, undef, undef, undef, undef, undef], defers := [] })
          (fun x a' _ X Y row hs hg hr => hs)
          ?assign ?body ?done ?stop
        case assign =>
          rintro l pre x W K hI hK
          gi_wp2
          exact hK _ _ ((KeepsOthers.refl _).from _) (K9.refl _ _ _) hI rfl
        case body =>
          rintro l pre x a' W hl _ ⟨e0, e1, hB1⟩ rfl hlt
          have c0 : W.cell? ⟨w3.heap.size, 0, Option.none⟩ = some (.int .i64 (IntKind.i64.wrap (c + sumP9 true pre))) := by simp [World.cell?, e0]
          have f0 : W.frozen? ⟨w3.heap.size, 0, Option.none⟩ = false := by simp [World.frozen?, e0]
          have c1 : W.cell? ⟨w.heap.size + 1, 0, Option.none⟩ = some (.func (.func 81) #[] #[]) := by simp [World.cell?, e1]
          obtain ⟨sm, hsm⟩ : ∃ sm, IntKind.i64.wrap (c + sumP9 true pre) = sm := ⟨_, rfl⟩
          rw [hsm] at c0
          have E := Lib.hid (And.intro e0 (And.intro e1 (And.intro hB1 hsm)))
          have HSP : Hid (∀ v, v = IntKind.i64.wrap (sm + pick9 true x.1 x.2) → v = IntKind.i64.wrap (c + sumP9 true (pre ++ [x]))) := fun v hv => by rw [hv, ← hsm, wrap_add9, sumP9_snoc]; congr 1; omega
          clear e0 e1 hB1 hsm
          gi_wp2_with fail
          have mixed : Tryz.prog.follows Departure.mixedOrders = true := by kernel_rfl
          gi_region_with_o (refine ⟨trivial, ?_⟩; gi_at_call 81; refine (CallsIn.inRound l (callsIn_wide.2 (greater9 x.1 x.2 _))).mono ?_; rintro e w' ⟨rfl, rfl⟩)
          all_goals (try gi_wp2_with fail)
          all_goals exact rnd9 E.out.1 E.out.2.1 (by omega) E.out.2.2.1 (by omega) (HSP.out _ (by first | rfl | exact (wrapE9 _).symm))
        case done =>
          rintro D zs W hD rfl ⟨e0, e1, hB1⟩ hK
          have c0 : W.cell? ⟨w3.heap.size, 0, Option.none⟩ = some (.int .i64 (IntKind.i64.wrap (c + sumP9 true (rs.map (en9 ts))))) := by simp [World.cell?, e0]
          obtain ⟨sv, hsv⟩ : ∃ sv, IntKind.i64.wrap (c + sumP9 true (rs.map (en9 ts))) = sv := ⟨_, rfl⟩
          rw [hsv] at c0
          have HS := Lib.hid hsv
          clear hsv e0
          gi_wp2
          refine ⟨by simp, .inl ⟨_, _, rfl, run_takeDeferred hK, ?_⟩⟩
          exact ⟨.tuple #[.int .i64 sv, .bool true], by simp [results, Tryz.f79, go_sem], by rw [R.out, HS.out]; rfl, hB1.trans (belowK_b (w := w) (Nat.le_refl _) W D _ _ (by omega) hK rfl rfl)⟩
        case stop =>
          rintro D c' pre W hD hSp hF hK
          exact hF.elim
end Go.Proofs.YtjdpddcnogdekaaGreat
