/-
  A sum without a name: of the specification. A range of a name; whether some times a number is within.
-/
import Derived.Test.YtjdpddcnogdekaaGreatMtRest
import Derived.Test.YtjdpddcnogdekaaGreatBoxOkS
namespace Go.Proofs.YtjdpddcnogdekaaGreat
open Go.RowKit Go.Lib
set_option linter.unusedSimpArgs false
set_option linter.unusedVariables false

theorem arg_app11 {w wb w8 : World} {c : Int} {X : List AR} {v v' : Value} {x : Array Value} (h : Rs11 w wb c X v) (hp : wb.heap[w.heap.size]? = some (.cells x 26 (0, 0))) (hg : wb.grownBy w8 v.ownBlock) :
    (w8.setCell ⟨w.heap.size + 1 + 1, 1, Option.none⟩ v').heap[w.heap.size]? = some (.cells x 26 (0, 0)) :=
  (Below.heap_setCell _ _ _ _ (by show w.heap.size ≠ w.heap.size + 1 + 1; omega)).trans ((hg.block _ (lt_heap11 hp) (fun e => own_ne11 h.own hp e.symm)).trans hp)
set_option maxHeartbeats 2000000 in
set_option maxRecDepth 100000 in
theorem l11Rest_is (c : Int) (ts : List AR) (hn : ts.length ≤ 10000000) (s : ByteArray) (va : Value) (w : World) (ha : AV w 0 va ts) :
    Calls Tryz.prog 35 #[.agg #[.int .i64 c, va], .string s] w fun e w' => ∃ v' cp, e = .returned (.agg #[.int .i64 c, .slice v' (rest11 ts s).length cp]) ∧ AV w' 0 (.slice v' (rest11 ts s).length cp) (rest11 ts s) ∧ Below w.heap.size w w' := by
  obtain ⟨ao, cap, rfl, hr⟩ := ha
  have Hr := Lib.hid hr
  have HN := Lib.hid hn
  have hnI : (ts.length : Int) ≤ 10000000 := by omega
  obtain ⟨q0, q1, q2⟩ := heap3q11 w (.cells #[.int .i64 c, .slice ao ts.length cap] 26) (.cells #[.int .i64 0, .slice Option.none 0 0] 26) (.cells #[.int .i64 c, .slice Option.none 0 0] 26)
  have hb3 : Below w.heap.size w (((w.alloc (.cells #[.int .i64 c, .slice ao ts.length cap] 26)).alloc (.cells #[.int .i64 0, .slice Option.none 0 0] 26)).alloc (.cells #[.int .i64 c, .slice Option.none 0 0] 26)) := ((alloc_below w _).alloc (by simp) _).alloc (by simp; omega) _
  have R0 := Lib.hid (Rs11.mk (X := []) (World.ownsRow_nil _ _ _ _) q2 q1 hb3)
  have P0 := Lib.hid q0
  clear hr hn q0 q1 q2 hb3
  go_enter Tryz.func35, Tryz.ntmps35
  go_wp2
  go_loopw [6] (fun i wr => ∃ (k : Nat) (X : List AR) (v : Value), k ≤ ts.length ∧ i = .int .i64 k ∧ Hid (X = rest11 (ts.take k) s) ∧ Hid (Rs11 w wr c X v) ∧ Hid (wr.heap[w.heap.size]? = some (.cells #[.int .i64 c, .slice ao ts.length cap] 26 (0, 0)))) (fun i _ => ts.length - (RowKit.intOf i).toNat)
  case atStart => exact ⟨0, [], _, by omega, rfl, rfl, R0, P0⟩
  case round =>
    obtain ⟨k, X, v, hk, rfl, HX, HR, HP⟩ := hrel
    obtain ⟨va1, vc1, rfl⟩ := ownShape11 HR.out.own
    obtain ⟨⟨p0, p1⟩, _⟩ := blk2 HP.out
    by_cases hlt : k < ts.length
    · have hltI : (k : Int) < (ts.length : Int) := by omega
      obtain ⟨t, ht⟩ : ∃ t, ts[k]? = some t := ⟨ts[k], List.getElem?_eq_getElem hlt⟩
      rcases Hr.out with hr | ⟨g, off, rfl, _, gl, hc⟩
      · subst hr; simp at hlt
      have CL := Lib.hid (fun (wz : World) (hz : Below w.heap.size w wz) => And.intro ((hz.cell (p := ⟨g, off + k * 2, Option.none⟩) gl).trans (hc k t ht).1) ((hz.cell (p := ⟨g, off + k * 2 + 1, Option.none⟩) gl).trans (hc k t ht).2))
      obtain ⟨A0, A1⟩ := CL.out wr HR.out.low
      have HT := Lib.hid ht
      clear hc ht
      by_cases he : t.s = s
      · have HX2 : Hid (X = rest11 (ts.take (k + 1)) s) := show _ = _ by rw [rest11_eq HT.out he, HX.out]
        subst he
        go_wp2
        go_roundw
        case rel => exact ⟨k + 1, X, _, by omega, by go_num, HX2.out, HR.out, HP.out⟩
        case measure => simp [RowKit.intOf]; omega
      · have HX2 : Hid (X ++ [t] = rest11 (ts.take (k + 1)) s) := show _ = _ by rw [rest11_ne HT.out he, HX.out]
        have hne := str_ne he
        have hXl : X.length ≤ ts.length := by have := rest11_len (ts.take k) s; rw [← HX.out] at this; simp only [List.length_take] at this; omega
        have HXL := Lib.hid hXl
        clear hXl
        go_wp2_with fail
        have bd : Below wr.heap.size wr wr.drew := (Below.refl _ wr).drew
        obtain ⟨w4, Wd⟩ : ∃ w4, Hid (w4 = wr.drew) := ⟨_, rfl⟩
        have hS : w4.heap[w.heap.size + 1 + 1]? = some (.cells #[.int .i64 c, .slice va1 X.length vc1] 26 (0, 0)) ∧ w4.heap[w.heap.size]? = some (.cells #[.int .i64 c, .slice (some ⟨g, off, Option.none⟩) ts.length cap] 26 (0, 0)) ∧ Below w.heap.size w w4 := by rw [Wd.out]; exact ⟨heap_b11 HR.out.box bd, heap_b11 HP.out bd, (HR.out.later bd).low⟩
        refine wp_region_last (fun w' => w'.heap[w.heap.size + 1 + 1]? = some (.cells #[.int .i64 c, .slice va1 X.length vc1] 26 (0, 0)) ∧ w'.heap[w.heap.size]? = some (.cells #[.int .i64 c, .slice (some ⟨g, off, Option.none⟩) ts.length cap] 26 (0, 0)) ∧ Below w.heap.size w w') 10 (by kernel_rfl) ?_
        rw [← Wd.out] at bd ⊢
        have R4 := Lib.hid (HR.out.later bd)
        clear bd Wd A0 A1 p0 p1
        refine wpAnyL_take (i := 0) (v := .pointer (some ⟨w.heap.size + 1 + 1, 1, Option.none⟩)) rfl (by kernel_rfl) (by kernel_rfl) (by kernel_rfl) (by kernel_rfl) (fun _ _ _ h => h) (Or.inl ⟨by rfl, ?yl0⟩) hS ?_
        case yl0 => intro w hSw; go_simp
        simp only [Act.put, List.getElem_toArray, List.getElem_cons_succ, List.getElem_cons_zero, List.setIfInBounds_toArray, List.set_cons_zero, List.set_cons_succ]
        refine wpAnyL_take (i := 1) (v := .slice va1 X.length vc1) rfl (by kernel_rfl) (by kernel_rfl) (by kernel_rfl) (by kernel_rfl) (fun _ _ _ h => h) (Or.inl ⟨by rfl, ?yl1⟩) hS ?_
        case yl1 => intro w hSw; obtain ⟨⟨j0, j1⟩, _⟩ := blk2 hSw.1; go_simp
        simp only [Act.put, List.getElem_toArray, List.getElem_cons_succ, List.getElem_cons_zero, List.setIfInBounds_toArray, List.set_cons_zero, List.set_cons_succ]
        refine wpAnyL_take (i := 2) (v := .pointer (some ⟨w.heap.size, 1, Option.none⟩)) rfl (by kernel_rfl) (by kernel_rfl) (by kernel_rfl) (by kernel_rfl) (fun _ _ _ h => h) (Or.inl ⟨by rfl, ?yl2⟩) hS ?_
        case yl2 => intro w hSw; go_simp
        simp only [Act.put, List.getElem_toArray, List.getElem_cons_succ, List.getElem_cons_zero, List.setIfInBounds_toArray, List.set_cons_zero, List.set_cons_succ]
        refine wpAnyL_take (i := 3) (v := .slice (some ⟨g, off, Option.none⟩) ts.length cap) rfl (by kernel_rfl) (by kernel_rfl) (by kernel_rfl) (by kernel_rfl) (fun _ _ _ h => h) (Or.inl ⟨by rfl, ?yl3⟩) hS ?_
        case yl3 => intro w hSw; obtain ⟨⟨j0, j1⟩, _⟩ := blk2 hSw.2.1; go_simp
        simp only [Act.put, List.getElem_toArray, List.getElem_cons_succ, List.getElem_cons_zero, List.setIfInBounds_toArray, List.set_cons_zero, List.set_cons_succ]
        refine wpAnyL_take (i := 4) (v := .int .i64 (k : Int)) rfl (by kernel_rfl) (by kernel_rfl) (by kernel_rfl) (by kernel_rfl) (fun _ _ _ h => h) (Or.inl ⟨by rfl, ?yl4⟩) hS ?_
        case yl4 => intro w hSw; go_simp
        simp only [Act.put, List.getElem_toArray, List.getElem_cons_succ, List.getElem_cons_zero, List.setIfInBounds_toArray, List.set_cons_zero, List.set_cons_succ]
        refine wpAnyL_take (i := 5) (v := .pointer (some ⟨g, off + k * 2, Option.none⟩)) rfl (by kernel_rfl) (by kernel_rfl) (by kernel_rfl) (by kernel_rfl) (fun _ _ _ h => h) (Or.inl ⟨by rfl, ?yl5⟩) hS ?_
        case yl5 => intro w hSw; go_simp
        simp only [Act.put, List.getElem_toArray, List.getElem_cons_succ, List.getElem_cons_zero, List.setIfInBounds_toArray, List.set_cons_zero, List.set_cons_succ]
        refine wpAnyL_take (i := 6) (v := .agg #[.string t.s, .int .i64 t.n]) rfl (by kernel_rfl) (by kernel_rfl) (by kernel_rfl) (by kernel_rfl) (fun _ _ _ h => h) (Or.inl ⟨by rfl, ?yl6⟩) hS ?_
        case yl6 => intro w hSw; obtain ⟨j0, j1⟩ := CL.out w hSw.2.2; go_simp
        simp only [Act.put, List.getElem_toArray, List.getElem_cons_succ, List.getElem_cons_zero, List.setIfInBounds_toArray, List.set_cons_zero, List.set_cons_succ]
        refine wpAnyL_ready (rs := [7]) (by kernel_rfl) (by simp) ?_
        refine AllReadyL.cons rfl (fun K hK => ?_) AllReadyL.nil
        rw [if_pos (by rfl)]
        simp only [List.getElem_toArray, List.getElem_cons_succ, List.getElem_cons_zero]
        go_wp2_with fail
        have bb := alloc_below w4 (.cells #[.string t.s, .int .i64 t.n] 70)
        have hS2 := And.intro (heap_b11 hS.1 bb) (And.intro (heap_b11 hS.2.1 bb) (hS.2.2.trans (bb.mono hS.2.2.size)))
        refine hK.out _ _ (fun _ => hS2) ?_
        have P4 := Lib.hid (hS2.2.1)
        clear hS hK
        have hS := hS2
        clear hS2
        have RB := Lib.hid (R4.out.later bb)
        have hl := heap_last w4 (.cells #[.string t.s, .int .i64 t.n] 70)
        obtain ⟨v', w8, hrun, hown, hgr⟩ := appT11 (ts := [t]) RB.out.own RB.out.low.size (one11 hl) (by have := HN.out; have := HXL.out; simp; omega) 24
        obtain ⟨⟨e0, e1⟩, k0, k1⟩ := blk2 (RB.out.box8 hgr)
        have R9 := Lib.hid (RB.out.app hown hgr)
        have P9 := Lib.hid (arg_app11 (v' := v') RB.out P4.out hgr)
        have B8 := Lib.hid (And.intro (RB.out.box8 hgr) (And.intro ((hgr.block _ (lt_heap11 P4.out) (fun e => own_ne11 RB.out.own P4.out e.symm)).trans P4.out) (RB.out.low.grown hgr RB.out.low.size (fun k hk => (RB.out.own.lt k hk).1))))
        obtain ⟨a8, c8, rfl⟩ := ownShape11 hown
        simp only [List.length_cons, List.length_nil, Nat.zero_add] at hrun
        clear hown hgr hl bb
        refine wpAnyL_ready (rs := [8]) (by kernel_rfl) (by simp) ?_
        refine AllReadyL.cons rfl (fun K hK => ?_) AllReadyL.nil
        rw [if_pos (by rfl)]
        simp only [List.getElem_toArray, List.getElem_cons_succ, List.getElem_cons_zero]
        refine wp_app11 _ _ 24 _ _ _ rfl (by rfl) (by rfl) hrun ?_
        refine hK.out _ _ (fun _ => B8.out) ?_
        clear hK hS hrun
        have hS := B8.out
        simp only [Act.put, List.getElem_toArray, List.getElem_cons_succ, List.getElem_cons_zero, List.setIfInBounds_toArray, List.set_cons_zero, List.set_cons_succ]
        refine wpAnyL_take (i := 9) (v := .pointer (some ⟨w.heap.size + 1 + 1, 1, Option.none⟩)) rfl (by kernel_rfl) (by kernel_rfl) (by kernel_rfl) (by kernel_rfl) (fun _ _ _ h => h) (Or.inl ⟨by rfl, ?yl9⟩) hS ?_
        case yl9 => intro w hSw; go_simp
        simp only [Act.put, List.getElem_toArray, List.getElem_cons_succ, List.getElem_cons_zero, List.setIfInBounds_toArray, List.set_cons_zero, List.set_cons_succ]
        refine wpAnyL_ready (rs := [10]) (by kernel_rfl) (by simp) ?_
        refine AllReadyL.cons rfl (fun K hK => ?_) AllReadyL.nil
        rw [if_pos (by rfl)]
        simp only [List.getElem_toArray, List.getElem_cons_succ, List.getElem_cons_zero]
        go_wp2_with fail
        refine hK.out _ _ (fun e => absurd rfl e) ?_
        clear hK hS
        refine wpAnyL_done (by kernel_rfl) ?_ _
        clear e0 e1 k0 k1
        go_wp2
        go_roundw
        case rel => exact ⟨k + 1, X ++ [t], _, by omega, by go_num, HX2.out, R9.out, P9.out⟩
        case measure => simp [RowKit.intOf]; omega
    · have HX2 : Hid (X = rest11 ts s) := show _ = _ by rw [HX.out, List.take_of_length_le (by omega)]
      obtain ⟨⟨y0, y1⟩, _⟩ := blk2 HR.out.box
      obtain ⟨⟨e0, e1⟩, k0, k1⟩ := blk2 HR.out.res
      go_wp2
      have f0 := Go.heap_setCell_same _ _ 0 _ _ (.int .i64 c) HR.out.res
      have f1 := Go.heap_setCell_same _ _ 1 _ _ (.slice va1 X.length vc1) f0
      obtain ⟨⟨z0, z1⟩, _⟩ := blk2 f1
      have hfin : Below w.heap.size w ((wr.setCell ⟨w.heap.size + 1, 0, Option.none⟩ (.int .i64 c)).setCell ⟨w.heap.size + 1, 1, Option.none⟩ (.slice va1 X.length vc1)) := (HR.out.low.setCell (p := ⟨w.heap.size + 1, 0, Option.none⟩) (Nat.le_succ _) _).setCell (p := ⟨w.heap.size + 1, 1, Option.none⟩) (Nat.le_succ _) _
      have hav : AV ((wr.setCell ⟨w.heap.size + 1, 0, Option.none⟩ (.int .i64 c)).setCell ⟨w.heap.size + 1, 1, Option.none⟩ (.slice va1 X.length vc1)) 0 (.slice va1 X.length vc1) X := AV.ofOwn11 (own_later11 HR.out.own (fun g c2 hg hh => (Below.heap_setCell _ _ _ _ (ne_types11 hh HR.out.res)).trans (Below.heap_setCell _ _ _ _ (ne_types11 hh HR.out.res))))
      have hXe := HX2.out
      subst hXe
      exact bodyPost_ret (v := .agg #[.int .i64 c, .slice va1 (rest11 ts s).length vc1]) (by simp [results, Tryz.results35, go_sem, z0, z1]) rfl ⟨_, _, rfl, hav, hfin⟩
/-- Whether some times n, from once up to m times, is from lo to hi, as the landed code has it. -/
def hasT11 (lo hi n m : Int) : Bool := decide ((if lo > n then (lo + n - 1) / n else 1) ≤ m) && decide (n * (if lo > n then (lo + n - 1) / n else 1) ≤ hi)
set_option maxHeartbeats 1000000 in
theorem hasTimes_is (lo hi n m : Int) (h1 : -1000000000000 ≤ lo ∧ lo ≤ 1000000000000) (h2 : -1000000000000 ≤ hi ∧ hi ≤ 1000000000000) (h3 : 1 ≤ n ∧ n ≤ 100000) (h4 : 0 ≤ m ∧ m ≤ 100000) (v : Bool) (hv : hasT11 lo hi n m = v) (w : World) :
    Calls Tryz.prog 32 #[.agg #[.int .i64 lo, .int .i64 hi], .int .i64 n, .int .i64 m] w fun e w' => e = .returned (.bool v) ∧ Below w.heap.size w w' := by
  have HB := Lib.hid (alloc_below w (.cells #[.int .i64 lo, .int .i64 hi] 56))
  have hn0 : ¬ n = 0 := by omega
  have hn0b : (n == 0) = false := by simp [hn0]
  by_cases h : lo > n
  · have hqb : 0 ≤ (lo + n - 1) / n ∧ (lo + n - 1) / n ≤ 1000000200000 :=
      ⟨Int.ediv_nonneg (by omega) (by omega), Int.le_trans (Int.ediv_le_self _ (by omega)) (by omega)⟩
    have e1 : wrap64 (wrap64 (lo + n) - 1) = lo + n - 1 := by unfold wrap64; omega
    have HV : Hid ((decide ((lo + n - 1) / n ≤ m) && decide (n * ((lo + n - 1) / n) ≤ hi)) = v) := show _ = _ by rw [← hv, hasT11, if_pos h]
    clear hv
    by_cases hm : (lo + n - 1) / n ≤ m
    · have e4 : wrap64 (n * ((lo + n - 1) / n)) = n * ((lo + n - 1) / n) := by
        have g1 : 0 ≤ n * ((lo + n - 1) / n) := Int.mul_nonneg (by omega) (by omega)
        have g2 : n * ((lo + n - 1) / n) ≤ 100000 * 100000 := Int.mul_le_mul (by omega) (by omega) (by omega) (by omega)
        unfold wrap64; omega
      by_cases hh : n * ((lo + n - 1) / n) ≤ hi
      · have HV2 : Hid (v = true) := show _ = _ by rw [← HV.out, decide_eq_true hm, decide_eq_true hh]; rfl
        go_enter Tryz.func32, Tryz.ntmps32
        go_wp2
        go_ret
        exact ⟨ret_bool HV2.out.symm, HB.out⟩
      · have HV2 : Hid (v = false) := show _ = _ by rw [← HV.out, decide_eq_true hm, decide_eq_false hh]; rfl
        go_enter Tryz.func32, Tryz.ntmps32
        go_wp2
        go_ret
        exact ⟨ret_bool HV2.out.symm, HB.out⟩
    · have HV2 : Hid (v = false) := show _ = _ by rw [← HV.out, decide_eq_false hm]; rfl
      go_enter Tryz.func32, Tryz.ntmps32
      go_wp2
      go_ret
      exact ⟨ret_bool HV2.out.symm, HB.out⟩
  · have HV : Hid ((decide (1 ≤ m) && decide (n ≤ hi)) = v) := show _ = _ by rw [← hv, hasT11, if_neg h, Int.mul_one]
    clear hv
    by_cases hm : 1 ≤ m
    · by_cases hh : n ≤ hi
      all_goals
        go_enter Tryz.func32, Tryz.ntmps32
        go_wp2
        go_ret
        exact ⟨ret_bool (by rw [← HV.out]; simp [hm, hh]), HB.out⟩
    · go_enter Tryz.func32, Tryz.ntmps32
      go_wp2
      go_ret
      exact ⟨ret_bool (by rw [← HV.out]; simp; omega), HB.out⟩
theorem l1In_is (n lo hi : Int) (v : Bool) (hv : (decide (lo ≤ n) && decide (n ≤ hi)) = v) (w : World) :
    Calls Tryz.prog 38 #[.int .i64 n, .int .i64 lo, .int .i64 hi] w fun e w' => e = .returned (.bool v) ∧ w = w' := by
  subst hv
  by_cases h : lo ≤ n
  · by_cases h2 : n ≤ hi
    all_goals
      go_enter Tryz.func38, Tryz.ntmps38
      go_wp2
      go_ret
      exact ⟨ret_bool (by simp [h, h2]), rfl⟩
  · go_enter Tryz.func38, Tryz.ntmps38
    go_wp2
    go_ret
    exact ⟨ret_bool (by rw [decide_eq_false (p := lo ≤ n) (by omega)]; rfl), rfl⟩
set_option maxHeartbeats 2000000 in
theorem rngNamed_is (rs : List RG) (hn : rs.length ≤ 1000000000) (s : ByteArray) (va : Value) (w : World) (ha : RV w 0 va rs) (b : Bool) (hb : hasR9 rs s = b) :
    Calls Tryz.prog 29 #[va, .string s] w fun e w' => e = .returned (.tuple #[.agg #[.string (rg9 rs s).s, .int .i64 (rg9 rs s).lo, .int .i64 (rg9 rs s).hi], .bool b]) ∧ Below w.heap.size w w' := by
  obtain ⟨ao, cap, rfl, _, hr⟩ := ha
  have Hr := Lib.hid hr
  have HN := Lib.hid hn
  have hnI : (rs.length : Int) ≤ 1000000000 := by omega
  have Z0 := Lib.hid (heap_last w (.cells #[.string ⟨#[]⟩, .int .i64 0, .int .i64 0] 32))
  have B0 := Lib.hid (alloc_below w (.cells #[.string ⟨#[]⟩, .int .i64 0, .int .i64 0] 32))
  have HB := Lib.hid hb
  clear hr hn hb
  go_enter Tryz.func29, Tryz.ntmps29
  go_wp2
  go_loopw [10] (fun i wr => ∃ k : Nat, k ≤ rs.length ∧ i = .int .i64 k ∧ Hid (hasR9 rs s = hasR9 (rs.drop k) s ∧ rg9 rs s = rg9 (rs.drop k) s) ∧ Hid (wr.heap[w.heap.size]? = some (.cells #[.string ⟨#[]⟩, .int .i64 0, .int .i64 0] 32 (0, 0))) ∧ Hid (Below w.heap.size w wr)) (fun i _ => rs.length - (RowKit.intOf i).toNat)
  case atStart => exact ⟨0, by omega, rfl, ⟨by rw [List.drop_zero], by rw [List.drop_zero]⟩, Z0, B0⟩
  case round =>
    obtain ⟨k, hk, rfl, HG, HZ, HBR⟩ := hrel
    by_cases hlt : k < rs.length
    · have hltI : (k : Int) < (rs.length : Int) := by omega
      obtain ⟨t, ht⟩ : ∃ t, rs[k]? = some t := ⟨rs[k], List.getElem?_eq_getElem hlt⟩
      rcases Hr.out with hr | ⟨g, off, rfl, _, gl, hc⟩
      · subst hr; simp at hlt
      have A0 := (HBR.out.cell (p := ⟨g, off + k * 3, Option.none⟩) gl).trans (hc k t ht).1
      have A1 := (HBR.out.cell (p := ⟨g, off + k * 3 + 1, Option.none⟩) gl).trans (hc k t ht).2.1
      have A2 := (HBR.out.cell (p := ⟨g, off + k * 3 + 2, Option.none⟩) gl).trans (hc k t ht).2.2
      have hd : Hid (rs.drop k = t :: rs.drop (k + 1)) := drop9 ht
      have ba := alloc_below wr (.cells #[.string t.s, .int .i64 t.lo, .int .i64 t.hi] 32)
      have HZ2 := Lib.hid (heap_b11 HZ.out ba)
      have HB2 := Lib.hid (HBR.out.trans (ba.mono HBR.out.size))
      clear hc ht ba
      by_cases he : t.s = s
      · have R : Hid (b = true ∧ rg9 rs s = t) := by
          refine (⟨?_, ?_⟩ : b = true ∧ rg9 rs s = t)
          · rw [← HB.out, HG.out.1, hd.out]; simp [hasR9, he]
          · rw [HG.out.2, hd.out]; simp [rg9, he]
        subst he
        obtain ⟨e0, e1, e2⟩ := blk3 HZ2.out
        have k0 : ∀ j, ((wr.alloc (.cells #[.string t.s, .int .i64 t.lo, .int .i64 t.hi] 32))).frozen? ⟨w.heap.size, j, Option.none⟩ = false := fun j => by simp [World.frozen?, HZ2.out]
        have k1 := k0 0
        have k2 := k0 1
        have k3 := k0 2
        clear k0
        go_wp2
        have f0 := Go.heap_setCell_same _ _ 0 _ _ (.string t.s) HZ2.out
        have f1 := Go.heap_setCell_same _ _ 1 _ _ (.int .i64 t.lo) f0
        have f2 := Go.heap_setCell_same _ _ 2 _ _ (.int .i64 t.hi) f1
        obtain ⟨z0, z1, z2⟩ := blk3 f2
        have hfin := ((HB2.out.setCell (p := ⟨w.heap.size, 0, Option.none⟩) (Nat.le_refl _) (.string t.s)).setCell (p := ⟨w.heap.size, 1, Option.none⟩) (Nat.le_refl _) (.int .i64 t.lo)).setCell (p := ⟨w.heap.size, 2, Option.none⟩) (Nat.le_refl _) (.int .i64 t.hi)
        refine bodyPost_ret (v := .tuple #[.agg #[.string t.s, .int .i64 t.lo, .int .i64 t.hi], .bool true]) (by simp [results, Tryz.results29, go_sem, z0, z1, z2]) rfl ⟨by rw [R.out.2, R.out.1], hfin⟩
      · have R : Hid (hasR9 rs s = hasR9 (rs.drop (k + 1)) s ∧ rg9 rs s = rg9 (rs.drop (k + 1)) s) := by
          refine (⟨?_, ?_⟩ : _ ∧ _)
          · rw [HG.out.1, hd.out]; simp [hasR9, he]
          · rw [HG.out.2, hd.out]; simp [rg9, he]
        have hne := str_ne he
        go_wp2
        go_roundw
        case rel => exact ⟨k + 1, by omega, by go_num, R.out, HZ2.out, HB2.out⟩
        case measure => simp [RowKit.intOf]; omega
    · have R : Hid (b = false ∧ rg9 rs s = ⟨⟨#[]⟩, 0, 0⟩) := by
        refine (⟨?_, ?_⟩ : _ ∧ _)
        · rw [← HB.out, HG.out.1, List.drop_of_length_le (by omega)]; rfl
        · rw [HG.out.2, List.drop_of_length_le (by omega)]; rfl
      obtain ⟨e0, e1, e2⟩ := blk3 HZ.out
      have k0 : ∀ j, wr.frozen? ⟨w.heap.size, j, Option.none⟩ = false := fun j => by simp [World.frozen?, HZ.out]
      have k1 := k0 0
      have k2 := k0 1
      have k3 := k0 2
      clear k0
      go_wp2
      have f0 := Go.heap_setCell_same _ _ 0 _ _ (.string ⟨#[]⟩) HZ.out
      have f1 := Go.heap_setCell_same _ _ 1 _ _ (.int .i64 0) f0
      have f2 := Go.heap_setCell_same _ _ 2 _ _ (.int .i64 0) f1
      obtain ⟨z0, z1, z2⟩ := blk3 f2
      have hfin := ((HBR.out.setCell (p := ⟨w.heap.size, 0, Option.none⟩) (Nat.le_refl _) (.string ⟨#[]⟩)).setCell (p := ⟨w.heap.size, 1, Option.none⟩) (Nat.le_refl _) (.int .i64 0)).setCell (p := ⟨w.heap.size, 2, Option.none⟩) (Nat.le_refl _) (.int .i64 0)
      refine bodyPost_ret (v := .tuple #[.agg #[.string ⟨#[]⟩, .int .i64 0, .int .i64 0], .bool false]) (by simp [results, Tryz.results29, go_sem, z0, z1, z2, e0, e1, e2]) rfl ⟨by rw [R.out.2, R.out.1], ?_⟩
      first | exact hfin | exact HBR.out
end Go.Proofs.YtjdpddcnogdekaaGreat
