/-
  Texts in one: AffTimes, MarkText.
-/
import Derived.Test.YtfacenfiocdbgaaP16ofFnAffs
import Derived.Test.YtfacenfiocdbgaaRows
import Derived.Test.YtfacenfiocdbgaaP10ofFnAffs
import Derived.WalkKit
import Derived.WalkLawsBesides
import Derived.Lib.SmallJoins
import Derived.Lib.ItoaLen
import Derived.Below
import Derived.Lib.Hide
/-
  timesA of the landed code, of -1; AddA.
-/
namespace Go.Proofs.Ytfacenfiocdbgaa
open Go.RowKit Go.Lib
set_option linter.unusedSimpArgs false
set_option linter.unusedVariables false

theorem range_heap8 {A B : World} {g o : Nat} {cs : List Value} (h : B.heap[g]? = A.heap[g]?) (r : A.rangeAt g o cs) : B.rangeAt g o cs := fun j v hv => (World.cell?_of_block (a := ⟨g, o + j, Option.none⟩) h).trans (r j v hv)
theorem keep8 {w0 A w8 : World} {o : Obj} {v : Value} {b B C : Nat} {x : Obj} (hb : Below w0.heap.size w0 A) (hx : w0.heap[b]? = some x) (hg : (A.alloc o).grownBy w8 v.ownBlock) (hv : ∀ k, v.ownBlock = some k → B ≤ k ∧ k < C) (hlt : b < B) : w8.heap[b]? = some x := by
  have h0 := (Array.getElem?_eq_some_iff.1 hx).1
  have h1 := hb.size
  refine (hg.block b (by simp; omega) (fun e => by have := (hv b e.symm).1; omega)).trans ((Below.heap_alloc _ _ _ (by omega)).trans ((hb.block b h0).trans hx))
theorem range_grw8 {w w6 : World} {r : Option Nat} {n o : Nat} {cs : List Value} (h : w.rangeAt n o cs) (hs : n < w.heap.size) (hg : w.grownBy w6 r) (hne : r ≠ some n) : w6.rangeAt n o cs :=
  range_heap8 (hg.block n hs (fun e => hne e.symm)) h
theorem two8 (s : ByteArray) (n : Int) : ∀ u ∈ [Value.string s, Value.int .i64 n], u.oneCell' = true := by
  intro x hx; simp only [List.mem_cons, List.not_mem_nil, or_false] at hx; rcases hx with rfl | rfl <;> rfl
set_option maxHeartbeats 4000000 in
set_option maxRecDepth 100000 in
theorem timesA_is (c : Int) (ts : List AR) (hn : ts.length ≤ 4000000) (nb : NmB8 ts) (va : Value) (w : World) (ha : AV w 0 va ts) :
    Calls Try.prog 32 #[.int .i64 (-1), .agg #[.int .i64 c, va]] w fun e w' => ∃ v', e = .returned (.agg #[.int .i64 (IntKind.i64.wrap (-c)), v']) ∧ w'.ownsRow w.heap.size 59 2 v' ts.length (acells (ts.map negT8)) ∧ Below w.heap.size w w' := by
  obtain ⟨i0, hi0, hz0, hz1, hz2⟩ := info_parts infoIT8
  obtain ⟨q0, q1⟩ := heap2t w (.cells #[.int .i64 c, va] 26) (.cells #[.int .i64 0, .slice Option.none 0 0] 26)
  have HA := Lib.hid (And.intro ha nb)
  obtain ⟨a1, c1, rfl⟩ := ha.shape
  obtain ⟨⟨x0, x1⟩, _⟩ := blk2 q0
  clear ha nb q0 q1
  obtain ⟨dd, hdd⟩ : ∃ dd, IntKind.i64.wrap (-c) = dd := ⟨_, rfl⟩
  rw [hdd]
  have Q3 := Lib.hid (heap3t w (.cells #[.int .i64 c, .slice a1 ts.length c1] 26) (.cells #[.int .i64 0, .slice Option.none 0 0] 26) (.cells #[.int .i64 dd, .slice Option.none 0 0] 26))
  have HB3 : Hid (Below w.heap.size w (((w.alloc (.cells #[.int .i64 c, .slice a1 ts.length c1] 26)).alloc (.cells #[.int .i64 0, .slice Option.none 0 0] 26)).alloc (.cells #[.int .i64 dd, .slice Option.none 0 0] 26))) := show Below _ _ _ from ((alloc_below w _).alloc (by simp) _).alloc (by simp; omega) _
  go_enter Try.func32, Try.ntmps32
  go_wp2
  clear hdd
  go_loopw [19] (fun i wr => ∃ (k : Nat) (X : List AR) (v : Value), k ≤ ts.length ∧ i = .int .i64 (k : Int) ∧ Hid (X = (ts.take k).map negT8) ∧ Hid (wr.ownsRow (w.heap.size + 1 + 1 + 1) 59 2 v X.length (acells X)) ∧ Hid (wr.heap[w.heap.size + 1 + 1]? = some (.cells #[.int .i64 dd, v] 26)) ∧ Hid (wr.heap[w.heap.size + 1]? = some (.cells #[.int .i64 0, .slice Option.none 0 0] 26)) ∧ Below w.heap.size w wr) (fun i _ => ts.length - (RowKit.intOf i).toNat)
  case atStart =>
    exact ⟨0, [], .slice Option.none 0 0, Nat.zero_le _, rfl, rfl, World.ownsRow_nil _ _ _ _, Q3.out.2.2, Q3.out.2.1, HB3.out⟩
  case round =>
    obtain ⟨k, X, v, hk, rfl, HX, HO, HT, HR, hbr⟩ := hrel
    by_cases hlt : k < ts.length
    · have hltI : (k : Int) < (ts.length : Int) := by omega
      obtain ⟨t, ht⟩ : ∃ t, ts[k]? = some t := ⟨ts[k], List.getElem?_eq_getElem hlt⟩
      obtain ⟨ao, cap, e, hr⟩ := HA.out.1
      injection e with e1 e2 e3
      subst e1; subst e3
      rcases hr with hr | ⟨g, off, rfl, _, gl, hc⟩
      · subst hr; simp at hlt
      have A0 := (hbr.cell (p := ⟨g, off + k * 2, Option.none⟩) gl).trans (hc k t ht).1
      have A1 := (hbr.cell (p := ⟨g, off + k * 2 + 1, Option.none⟩) gl).trans (hc k t ht).2
      have hnb := HA.out.2 t (List.mem_of_getElem? ht)
      obtain ⟨nn, hnn⟩ : ∃ nn, IntKind.i64.wrap (-t.n) = nn := ⟨_, rfl⟩
      have HX2 : Hid (X ++ [(⟨t.s, nn⟩ : AR)] = (ts.take (k + 1)).map negT8) := show _ = _ by rw [HX.out, take_snocA ht, List.map_append, List.map_cons, List.map_nil, negT8, hnn]
      have HXL : Hid (X.length = k) := show _ = _ by rw [HX.out, List.length_map, List.length_take]; omega
      obtain ⟨oa, oc, rfl⟩ := ownShape HO.out
      have hws : w.heap.size + 1 + 1 < wr.heap.size := (Array.getElem?_eq_some_iff.1 HT.out).1
      have HV := Lib.hid HO.out.lt
      have hne : Hid (∀ e : (Value.slice oa X.length oc).ownBlock = some wr.heap.size, False) := Lib.hid fun e => by have := (HO.out.lt _ e).2; omega
      have ba := alloc_below wr (.cells #[.string t.s, .int .i64 t.n] 59)
      have hsa : wr.heap.size < (wr.alloc (.cells #[.string t.s, .int .i64 t.n] 59)).heap.size := by simp
      obtain ⟨wa, Wa⟩ : ∃ wa, Hid (wa = wr.alloc (.cells #[.string t.s, .int .i64 t.n] 59)) := ⟨_, rfl⟩
      have RA := Lib.hid (show wa.rangeAt wr.heap.size 0 [.string t.s, .int .i64 t.n] by rw [Wa.out]; exact blk_range (arr := #[.string t.s, .int .i64 t.n]) (heap_last _ _))
      rw [← Wa.out] at ba hsa
      have bd : Below wa.heap.size wa wa.drew := (Below.refl _ wa).drew
      have b1 := ba.trans (bd.mono ba.size)
      have B1 := Lib.hid b1
      have HBR := Lib.hid hbr
      have hsd : wa.drew.heap.size = wa.heap.size := rfl
      have TA := Lib.hid ((b1.block _ hws).trans HT.out)
      clear hc ht
      go_wp2_with fail
      rw [← Wa.out]
      clear Wa A0 A1 b1 ba hbr
      refine wp_region_held_drew (S := fun w' => w'.rangeAt wr.heap.size 0 [.string t.s, .int .i64 t.n]) (by kernel_rfl) (rangeAt_later RA.out bd) (fun hHeld => ?_)
      refine wpAnyH_take (i := 0) (v := .pointer (some ⟨w.heap.size + 1 + 1, 1, Option.none⟩)) rfl (by kernel_rfl) (by kernel_rfl) (by kernel_rfl) (fun _ _ _ h => h) (Or.inl ⟨by rfl, ?ya0⟩) hHeld ?_
      case ya0 => intro w hSw; go_simp
      simp only [Act.put, List.getElem_toArray, List.getElem_cons_succ, List.getElem_cons_zero, List.setIfInBounds_toArray, List.set_cons_zero, List.set_cons_succ]
      refine wpAnyH_take (i := 2) (v := .pointer (some ⟨wr.heap.size, 0, Option.none⟩)) rfl (by kernel_rfl) (by kernel_rfl) (by kernel_rfl) (fun _ _ _ h => h) (Or.inl ⟨by rfl, ?ya2⟩) hHeld ?_
      case ya2 => intro w hSw; go_simp
      simp only [Act.put, List.getElem_toArray, List.getElem_cons_succ, List.getElem_cons_zero, List.setIfInBounds_toArray, List.set_cons_zero, List.set_cons_succ]
      refine wpAnyH_take (i := 3) (v := .string t.s) rfl (by kernel_rfl) (by kernel_rfl) (by kernel_rfl) (fun _ _ _ h => h) (Or.inl ⟨by rfl, ?ya3⟩) hHeld ?_
      case ya3 => intro w hSw; have q : _ = _ := hSw 0 _ rfl; simp only [Nat.zero_add] at q; go_simp
      simp only [Act.put, List.getElem_toArray, List.getElem_cons_succ, List.getElem_cons_zero, List.setIfInBounds_toArray, List.set_cons_zero, List.set_cons_succ]
      refine wpAnyH_take (i := 4) (v := .int .i64 (-1)) rfl (by kernel_rfl) (by kernel_rfl) (by kernel_rfl) (fun _ _ _ h => h) (Or.inl ⟨by rfl, ?ya4⟩) hHeld ?_
      case ya4 => intro w hSw; go_simp
      simp only [Act.put, List.getElem_toArray, List.getElem_cons_succ, List.getElem_cons_zero, List.setIfInBounds_toArray, List.set_cons_zero, List.set_cons_succ]
      refine wpAnyH_take (i := 5) (v := .pointer (some ⟨wr.heap.size, 1, Option.none⟩)) rfl (by kernel_rfl) (by kernel_rfl) (by kernel_rfl) (fun _ _ _ h => h) (Or.inl ⟨by rfl, ?ya5⟩) hHeld ?_
      case ya5 => intro w hSw; go_simp
      simp only [Act.put, List.getElem_toArray, List.getElem_cons_succ, List.getElem_cons_zero, List.setIfInBounds_toArray, List.set_cons_zero, List.set_cons_succ]
      refine wpAnyH_take (i := 6) (v := .int .i64 t.n) rfl (by kernel_rfl) (by kernel_rfl) (by kernel_rfl) (fun _ _ _ h => h) (Or.inl ⟨by rfl, ?ya6⟩) hHeld ?_
      case ya6 => intro w hSw; have q : _ = _ := hSw 1 _ rfl; simp only [Nat.zero_add] at q; go_simp
      simp only [Act.put, List.getElem_toArray, List.getElem_cons_succ, List.getElem_cons_zero, List.setIfInBounds_toArray, List.set_cons_zero, List.set_cons_succ]
      refine wpAnyH_take (i := 7) (v := .int .i64 nn) rfl (by kernel_rfl) (by kernel_rfl) (by kernel_rfl) (fun _ _ _ h => h) (Or.inl ⟨by rfl, ?ya7⟩) hHeld ?_
      case ya7 => intro w hSw; go_simp
      simp only [Act.put, List.getElem_toArray, List.getElem_cons_succ, List.getElem_cons_zero, List.setIfInBounds_toArray, List.set_cons_zero, List.set_cons_succ]
      refine wpAnyH_ready (rs := [1, 8]) (by kernel_rfl) (by simp) ?_
      refine AllReadyH.cons rfl (fun K hK => ?_) (AllReadyH.cons rfl (fun K hK => ?_) AllReadyH.nil)
      · rw [if_pos (by rfl)]
        simp only [List.getElem_toArray, List.getElem_cons_succ, List.getElem_cons_zero]
        obtain ⟨⟨j0, j1⟩, _⟩ := blk2 (TA.out)
        go_wp2_with fail
        clear j0 j1
        refine hK.out _ _ hHeld (fun hHeld => ?_)
        refine wpAnyH_ready (rs := [8]) (by kernel_rfl) (by simp) ?_
        refine AllReadyH.cons rfl (fun K hK => ?_) AllReadyH.nil
        rw [if_pos (by rfl)]
        simp only [List.getElem_toArray, List.getElem_cons_succ, List.getElem_cons_zero]
        go_wp2_with fail
        refine (termOf_is t.s hnb nn _).mono ?_
        rintro e w5 ⟨rfl, hb5⟩
        have B5 := Lib.hid (B1.out.trans (hb5.mono B1.out.size))
        have T5 := Lib.hid ((B5.out.block _ hws).trans HT.out)
        have h5 := hb5.size
        go_wp2_with fail
        refine hK.out _ _ (rangeAt_later hHeld hb5) (fun hHeld => ?_)
        refine wpAnyH_ready (rs := [9]) (by kernel_rfl) (by simp) ?_
        refine AllReadyH.cons rfl (fun K hK => ?_) AllReadyH.nil
        rw [if_pos (by rfl)]
        simp only [List.getElem_toArray, List.getElem_cons_succ, List.getElem_cons_zero]
        go_wp2_with fail
        refine hK.out _ _ (World.rangeAt_alloc hHeld _) (fun hHeld => ?_)
        refine wpAnyH_ready (rs := [10]) (by kernel_rfl) (by simp) ?_
        refine AllReadyH.cons rfl (fun K hK => ?_) AllReadyH.nil
        rw [if_pos (by rfl)]
        simp only [List.getElem_toArray, List.getElem_cons_succ, List.getElem_cons_zero]
        have own5 := Lib.hid (own_below8 HO.out B5.out)
        refine wp_append_own _ _ _ 24 (by rfl) (w.heap.size + 1 + 1 + 1) 59 i0 _ 2 24 Try.underlying24 hi0 hz0 hz1 hz2 rfl (by decide) _ _ _ (by rfl) (own5.out.alloc _) ⟨w5.heap.size, 0, Option.none⟩ 1 1 [.string t.s, .int .i64 nn] (by rfl) (by rfl) (new2T _ _ _ _) (two8 _ _) (by have := HXL.out; unfold maxLen; omega) (by have := HXL.out; omega) (by simp; omega) ?_
        intro v' w8 hown8 hgrow8 _
        obtain ⟨a8, c8, rfl⟩ := ownShape hown8
        have T8 := Lib.hid (keep8 B5.out HT.out hgrow8 HV.out (by omega))
        have R8 := Lib.hid (keep8 B5.out HR.out hgrow8 HV.out (by omega))
        have F5 := HBR.out.trans (B5.out.mono HBR.out.size)
        have F8 := Lib.hid ((F5.alloc F5.size _).grown hgrow8 (by have := F5.size; simp; omega) (fun k hk => by have := (HV.out k hk).1; omega))
        have hr8 := range_grw8 hHeld (by simp; omega) hgrow8 (fun e => hne.out e)
        refine hK.out _ _ hr8 (fun hHeld => ?_)
        simp only [Act.put, List.getElem_toArray, List.getElem_cons_succ, List.getElem_cons_zero, List.setIfInBounds_toArray, List.set_cons_zero, List.set_cons_succ]
        refine wpAnyH_take (i := 11) (v := .pointer (some ⟨w.heap.size + 1 + 1, 1, Option.none⟩)) rfl (by kernel_rfl) (by kernel_rfl) (by kernel_rfl) (fun _ _ _ h => h) (Or.inl ⟨by rfl, ?yb11⟩) hHeld ?_
        case yb11 => intro w hSw; go_simp
        simp only [Act.put, List.getElem_toArray, List.getElem_cons_succ, List.getElem_cons_zero, List.setIfInBounds_toArray, List.set_cons_zero, List.set_cons_succ]
        refine wpAnyH_ready (rs := [12]) (by kernel_rfl) (by simp) ?_
        refine AllReadyH.cons rfl (fun K hK => ?_) AllReadyH.nil
        rw [if_pos (by rfl)]
        simp only [List.getElem_toArray, List.getElem_cons_succ, List.getElem_cons_zero]
        obtain ⟨⟨e0, e1⟩, k0, k1⟩ := blk2 T8.out
        go_wp2_with fail
        have hd1 : wr.heap.size ≠ w.heap.size + 1 + 1 := by omega
        refine hK.out _ _ (range_heap8 (Below.heap_setCell w8 ⟨w.heap.size + 1 + 1, 1, Option.none⟩ (.slice a8 (X.length + 1) c8) wr.heap.size hd1) hHeld) (fun hHeld => ?_)
        refine wpAnyH_done (by kernel_rfl) ?_ _
        have O9 : Hid ((w8.setCell ⟨w.heap.size + 1 + 1, 1, Option.none⟩ (.slice a8 (X.length + 1) c8)).ownsRow (w.heap.size + 1 + 1 + 1) 59 2 (.slice a8 (X.length + 1) c8) (X ++ [(⟨t.s, nn⟩ : AR)]).length (acells (X ++ [(⟨t.s, nn⟩ : AR)]))) := by
          rw [List.length_append, acells_snoc]
          exact own_later8 hown8 (fun g _ hg _ => Below.heap_setCell _ _ _ _ (by show g ≠ w.heap.size + 1 + 1; omega))
        have T9 := Lib.hid (Go.heap_setCell_same _ _ 1 _ _ (.slice a8 (X.length + 1) c8) T8.out)
        have hd2 : w.heap.size + 1 ≠ w.heap.size + 1 + 1 := by omega
        have R9 := Lib.hid ((Below.heap_setCell w8 ⟨w.heap.size + 1 + 1, 1, Option.none⟩ (.slice a8 (X.length + 1) c8) (w.heap.size + 1) hd2).trans R8.out)
        have F9 := Lib.hid (F8.out.setCell (p := ⟨w.heap.size + 1 + 1, 1, Option.none⟩) (by show w.heap.size ≤ w.heap.size + 1 + 1; omega) (.slice a8 (X.length + 1) c8))
        clear hHeld hr8 hown8 hgrow8 e0 e1 k0 k1 bd F5
        go_wp2
        go_roundw
        case rel => exact ⟨k + 1, X ++ [(⟨t.s, nn⟩ : AR)], (.slice a8 (X.length + 1) c8), by omega, by go_num, HX2.out, O9.out, T9.out, R9.out, F9.out⟩
        case measure => simp [RowKit.intOf]; omega
      · rw [if_pos (by rfl)]
        simp only [List.getElem_toArray, List.getElem_cons_succ, List.getElem_cons_zero]
        go_wp2_with fail
        refine (termOf_is t.s hnb nn _).mono ?_
        rintro e w5 ⟨rfl, hb5⟩
        have B5 := Lib.hid (B1.out.trans (hb5.mono B1.out.size))
        have T5 := Lib.hid ((B5.out.block _ hws).trans HT.out)
        have h5 := hb5.size
        go_wp2_with fail
        refine hK.out _ _ (rangeAt_later hHeld hb5) (fun hHeld => ?_)
        refine wpAnyH_ready (rs := [1, 9]) (by kernel_rfl) (by simp) ?_
        refine AllReadyH.cons rfl (fun K hK => ?_) (AllReadyH.cons rfl (fun K hK => ?_) AllReadyH.nil)
        · rw [if_pos (by rfl)]
          simp only [List.getElem_toArray, List.getElem_cons_succ, List.getElem_cons_zero]
          obtain ⟨⟨j0, j1⟩, _⟩ := blk2 (T5.out)
          go_wp2_with fail
          clear j0 j1
          refine hK.out _ _ hHeld (fun hHeld => ?_)
          refine wpAnyH_ready (rs := [9]) (by kernel_rfl) (by simp) ?_
          refine AllReadyH.cons rfl (fun K hK => ?_) AllReadyH.nil
          rw [if_pos (by rfl)]
          simp only [List.getElem_toArray, List.getElem_cons_succ, List.getElem_cons_zero]
          go_wp2_with fail
          refine hK.out _ _ (World.rangeAt_alloc hHeld _) (fun hHeld => ?_)
          refine wpAnyH_ready (rs := [10]) (by kernel_rfl) (by simp) ?_
          refine AllReadyH.cons rfl (fun K hK => ?_) AllReadyH.nil
          rw [if_pos (by rfl)]
          simp only [List.getElem_toArray, List.getElem_cons_succ, List.getElem_cons_zero]
          have own5 := Lib.hid (own_below8 HO.out B5.out)
          refine wp_append_own _ _ _ 24 (by rfl) (w.heap.size + 1 + 1 + 1) 59 i0 _ 2 24 Try.underlying24 hi0 hz0 hz1 hz2 rfl (by decide) _ _ _ (by rfl) (own5.out.alloc _) ⟨w5.heap.size, 0, Option.none⟩ 1 1 [.string t.s, .int .i64 nn] (by rfl) (by rfl) (new2T _ _ _ _) (two8 _ _) (by have := HXL.out; unfold maxLen; omega) (by have := HXL.out; omega) (by simp; omega) ?_
          intro v' w8 hown8 hgrow8 _
          obtain ⟨a8, c8, rfl⟩ := ownShape hown8
          have T8 := Lib.hid (keep8 B5.out HT.out hgrow8 HV.out (by omega))
          have R8 := Lib.hid (keep8 B5.out HR.out hgrow8 HV.out (by omega))
          have F5 := HBR.out.trans (B5.out.mono HBR.out.size)
          have F8 := Lib.hid ((F5.alloc F5.size _).grown hgrow8 (by have := F5.size; simp; omega) (fun k hk => by have := (HV.out k hk).1; omega))
          have hr8 := range_grw8 hHeld (by simp; omega) hgrow8 (fun e => hne.out e)
          refine hK.out _ _ hr8 (fun hHeld => ?_)
          simp only [Act.put, List.getElem_toArray, List.getElem_cons_succ, List.getElem_cons_zero, List.setIfInBounds_toArray, List.set_cons_zero, List.set_cons_succ]
          refine wpAnyH_take (i := 11) (v := .pointer (some ⟨w.heap.size + 1 + 1, 1, Option.none⟩)) rfl (by kernel_rfl) (by kernel_rfl) (by kernel_rfl) (fun _ _ _ h => h) (Or.inl ⟨by rfl, ?yd11⟩) hHeld ?_
          case yd11 => intro w hSw; go_simp
          simp only [Act.put, List.getElem_toArray, List.getElem_cons_succ, List.getElem_cons_zero, List.setIfInBounds_toArray, List.set_cons_zero, List.set_cons_succ]
          refine wpAnyH_ready (rs := [12]) (by kernel_rfl) (by simp) ?_
          refine AllReadyH.cons rfl (fun K hK => ?_) AllReadyH.nil
          rw [if_pos (by rfl)]
          simp only [List.getElem_toArray, List.getElem_cons_succ, List.getElem_cons_zero]
          obtain ⟨⟨e0, e1⟩, k0, k1⟩ := blk2 T8.out
          go_wp2_with fail
          have hd1 : wr.heap.size ≠ w.heap.size + 1 + 1 := by omega
          refine hK.out _ _ (range_heap8 (Below.heap_setCell w8 ⟨w.heap.size + 1 + 1, 1, Option.none⟩ (.slice a8 (X.length + 1) c8) wr.heap.size hd1) hHeld) (fun hHeld => ?_)
          refine wpAnyH_done (by kernel_rfl) ?_ _
          have O9 : Hid ((w8.setCell ⟨w.heap.size + 1 + 1, 1, Option.none⟩ (.slice a8 (X.length + 1) c8)).ownsRow (w.heap.size + 1 + 1 + 1) 59 2 (.slice a8 (X.length + 1) c8) (X ++ [(⟨t.s, nn⟩ : AR)]).length (acells (X ++ [(⟨t.s, nn⟩ : AR)]))) := by
            rw [List.length_append, acells_snoc]
            exact own_later8 hown8 (fun g _ hg _ => Below.heap_setCell _ _ _ _ (by show g ≠ w.heap.size + 1 + 1; omega))
          have T9 := Lib.hid (Go.heap_setCell_same _ _ 1 _ _ (.slice a8 (X.length + 1) c8) T8.out)
          have hd2 : w.heap.size + 1 ≠ w.heap.size + 1 + 1 := by omega
          have R9 := Lib.hid ((Below.heap_setCell w8 ⟨w.heap.size + 1 + 1, 1, Option.none⟩ (.slice a8 (X.length + 1) c8) (w.heap.size + 1) hd2).trans R8.out)
          have F9 := Lib.hid (F8.out.setCell (p := ⟨w.heap.size + 1 + 1, 1, Option.none⟩) (by show w.heap.size ≤ w.heap.size + 1 + 1; omega) (.slice a8 (X.length + 1) c8))
          clear hHeld hr8 hown8 hgrow8 e0 e1 k0 k1 bd F5
          go_wp2
          go_roundw
          case rel => exact ⟨k + 1, X ++ [(⟨t.s, nn⟩ : AR)], (.slice a8 (X.length + 1) c8), by omega, by go_num, HX2.out, O9.out, T9.out, R9.out, F9.out⟩
          case measure => simp [RowKit.intOf]; omega
        · rw [if_pos (by rfl)]
          simp only [List.getElem_toArray, List.getElem_cons_succ, List.getElem_cons_zero]
          go_wp2_with fail
          refine hK.out _ _ (World.rangeAt_alloc hHeld _) (fun hHeld => ?_)
          refine wpAnyH_ready (rs := [1]) (by kernel_rfl) (by simp) ?_
          refine AllReadyH.cons rfl (fun K hK => ?_) AllReadyH.nil
          rw [if_pos (by rfl)]
          simp only [List.getElem_toArray, List.getElem_cons_succ, List.getElem_cons_zero]
          obtain ⟨⟨j0, j1⟩, _⟩ := blk2 ((show (w5.alloc (.cells #[.string t.s, .int .i64 nn] 59)).heap[w.heap.size + 1 + 1]? = _ from (Below.heap_alloc _ _ _ (by have := B5.out.size; omega)).trans T5.out))
          go_wp2_with fail
          clear j0 j1
          refine hK.out _ _ hHeld (fun hHeld => ?_)
          refine wpAnyH_ready (rs := [10]) (by kernel_rfl) (by simp) ?_
          refine AllReadyH.cons rfl (fun K hK => ?_) AllReadyH.nil
          rw [if_pos (by rfl)]
          simp only [List.getElem_toArray, List.getElem_cons_succ, List.getElem_cons_zero]
          have own5 := Lib.hid (own_below8 HO.out B5.out)
          refine wp_append_own _ _ _ 24 (by rfl) (w.heap.size + 1 + 1 + 1) 59 i0 _ 2 24 Try.underlying24 hi0 hz0 hz1 hz2 rfl (by decide) _ _ _ (by rfl) (own5.out.alloc _) ⟨w5.heap.size, 0, Option.none⟩ 1 1 [.string t.s, .int .i64 nn] (by rfl) (by rfl) (new2T _ _ _ _) (two8 _ _) (by have := HXL.out; unfold maxLen; omega) (by have := HXL.out; omega) (by simp; omega) ?_
          intro v' w8 hown8 hgrow8 _
          obtain ⟨a8, c8, rfl⟩ := ownShape hown8
          have T8 := Lib.hid (keep8 B5.out HT.out hgrow8 HV.out (by omega))
          have R8 := Lib.hid (keep8 B5.out HR.out hgrow8 HV.out (by omega))
          have F5 := HBR.out.trans (B5.out.mono HBR.out.size)
          have F8 := Lib.hid ((F5.alloc F5.size _).grown hgrow8 (by have := F5.size; simp; omega) (fun k hk => by have := (HV.out k hk).1; omega))
          have hr8 := range_grw8 hHeld (by simp; omega) hgrow8 (fun e => hne.out e)
          refine hK.out _ _ hr8 (fun hHeld => ?_)
          simp only [Act.put, List.getElem_toArray, List.getElem_cons_succ, List.getElem_cons_zero, List.setIfInBounds_toArray, List.set_cons_zero, List.set_cons_succ]
          refine wpAnyH_take (i := 11) (v := .pointer (some ⟨w.heap.size + 1 + 1, 1, Option.none⟩)) rfl (by kernel_rfl) (by kernel_rfl) (by kernel_rfl) (fun _ _ _ h => h) (Or.inl ⟨by rfl, ?ye11⟩) hHeld ?_
          case ye11 => intro w hSw; go_simp
          simp only [Act.put, List.getElem_toArray, List.getElem_cons_succ, List.getElem_cons_zero, List.setIfInBounds_toArray, List.set_cons_zero, List.set_cons_succ]
          refine wpAnyH_ready (rs := [12]) (by kernel_rfl) (by simp) ?_
          refine AllReadyH.cons rfl (fun K hK => ?_) AllReadyH.nil
          rw [if_pos (by rfl)]
          simp only [List.getElem_toArray, List.getElem_cons_succ, List.getElem_cons_zero]
          obtain ⟨⟨e0, e1⟩, k0, k1⟩ := blk2 T8.out
          go_wp2_with fail
          have hd1 : wr.heap.size ≠ w.heap.size + 1 + 1 := by omega
          refine hK.out _ _ (range_heap8 (Below.heap_setCell w8 ⟨w.heap.size + 1 + 1, 1, Option.none⟩ (.slice a8 (X.length + 1) c8) wr.heap.size hd1) hHeld) (fun hHeld => ?_)
          refine wpAnyH_done (by kernel_rfl) ?_ _
          have O9 : Hid ((w8.setCell ⟨w.heap.size + 1 + 1, 1, Option.none⟩ (.slice a8 (X.length + 1) c8)).ownsRow (w.heap.size + 1 + 1 + 1) 59 2 (.slice a8 (X.length + 1) c8) (X ++ [(⟨t.s, nn⟩ : AR)]).length (acells (X ++ [(⟨t.s, nn⟩ : AR)]))) := by
            rw [List.length_append, acells_snoc]
            exact own_later8 hown8 (fun g _ hg _ => Below.heap_setCell _ _ _ _ (by show g ≠ w.heap.size + 1 + 1; omega))
          have T9 := Lib.hid (Go.heap_setCell_same _ _ 1 _ _ (.slice a8 (X.length + 1) c8) T8.out)
          have hd2 : w.heap.size + 1 ≠ w.heap.size + 1 + 1 := by omega
          have R9 := Lib.hid ((Below.heap_setCell w8 ⟨w.heap.size + 1 + 1, 1, Option.none⟩ (.slice a8 (X.length + 1) c8) (w.heap.size + 1) hd2).trans R8.out)
          have F9 := Lib.hid (F8.out.setCell (p := ⟨w.heap.size + 1 + 1, 1, Option.none⟩) (by show w.heap.size ≤ w.heap.size + 1 + 1; omega) (.slice a8 (X.length + 1) c8))
          clear hHeld hr8 hown8 hgrow8 e0 e1 k0 k1 bd F5
          go_wp2
          go_roundw
          case rel => exact ⟨k + 1, X ++ [(⟨t.s, nn⟩ : AR)], (.slice a8 (X.length + 1) c8), by omega, by go_num, HX2.out, O9.out, T9.out, R9.out, F9.out⟩
          case measure => simp [RowKit.intOf]; omega
    · have hltI : ¬ (k : Int) < (ts.length : Int) := by omega
      have hkk : ts.take k = ts := List.take_of_length_le (by omega)
      have HXE : Hid (wr.ownsRow (w.heap.size + 1 + 1 + 1) 59 2 v ts.length (acells (ts.map negT8))) := by
        have := HO.out
        rw [HX.out, hkk, List.length_map] at this
        exact this
      obtain ⟨oa, oc, rfl⟩ := ownShape HXE.out
      have HBR := Lib.hid hbr
      obtain ⟨⟨y0, y1⟩, _⟩ := blk2 HT.out
      obtain ⟨⟨z0, z1⟩, k0, k1⟩ := blk2 HR.out
      clear hbr
      go_wp2
      have f0 := Go.heap_setCell_same _ _ 0 _ _ (.int .i64 dd) HR.out
      have f1 := Go.heap_setCell_same _ _ 1 _ _ (.slice oa ts.length oc) f0
      obtain ⟨⟨z0, z1⟩, _⟩ := blk2 f1
      have hp : w.heap.size ≤ w.heap.size + 1 := Nat.le_succ _
      refine bodyPost_ret (v := .agg #[.int .i64 dd, .slice oa ts.length oc]) (by simp [results, Try.results32, go_sem, z0, z1]) rfl ⟨.slice oa ts.length oc, rfl, ?_, (HBR.out.setCell (p := ⟨w.heap.size + 1, 0, Option.none⟩) hp _).setCell (p := ⟨w.heap.size + 1, 1, Option.none⟩) hp _⟩
      exact ownMono8 (by omega) (own_later8 HXE.out fun g _ hg _ => by
        have hne : g ≠ w.heap.size + 1 := by omega
        exact (Below.heap_setCell _ _ _ _ hne).trans (Below.heap_setCell _ _ _ _ hne))
theorem capOwn8 {w : World} {B sz n : Nat} {e : TypeId} {v : Value} {xs : List Value} (h : w.ownsRow B e sz v n xs) : Cap8 v := by
  intro a m c he
  rcases h.2 with ⟨h1, _⟩ | ⟨g, cap, cur, h1, _, _, h4, _⟩
  · rw [h1] at he; cases he; exact Nat.le_refl _
  · rw [h1] at he; cases he; exact h4
set_option maxHeartbeats 4000000 in
set_option maxRecDepth 100000 in
theorem impl_AddA (ca cb : Int) (la lb : List AR) (hl : la.length ≤ 4000000) (hm : lb.length ≤ 4000000) (nl : NmB8 la) (nm : NmB8 lb) (va vb : Value) (w : World) (ha : AV w 0 va la) (hb : AV w 0 vb lb) (hca : Cap8 va) :
    Calls Try.prog 9 #[.agg #[.int .i64 ca, va], .agg #[.int .i64 cb, vb]] w (OutSub8 w (subOk8 ca (IntKind.i64.wrap (-cb)) la (lb.map negT8)) (IntKind.i64.wrap (ca - IntKind.i64.wrap (-cb))) (less8 (la.length + (lb.map negT8).length) la (lb.map negT8))) := by
  obtain ⟨q0, q1, q2⟩ := heap3t w (.cells #[.int .i64 ca, va] 26) (.cells #[.int .i64 cb, vb] 26) (.cells #[.int .i64 0, .slice Option.none 0 0] 26)
  have hB3 : Below w.heap.size w (((w.alloc (.cells #[.int .i64 ca, va] 26)).alloc (.cells #[.int .i64 cb, vb] 26)).alloc (.cells #[.int .i64 0, .slice Option.none 0 0] 26)) := ((alloc_below w _).alloc (by simp) _).alloc (by simp; omega) _
  have HA := Lib.hid (And.intro ha (And.intro hb hca))
  obtain ⟨a1, c1, rfl⟩ := ha.shape
  obtain ⟨a2, c2, rfl⟩ := hb.shape
  obtain ⟨w2, W2⟩ : ∃ w2, Hid (w2 = (((w.alloc (.cells #[.int .i64 ca, .slice a1 la.length c1] 26)).alloc (.cells #[.int .i64 cb, .slice a2 lb.length c2] 26)).alloc (.cells #[.int .i64 0, .slice Option.none 0 0] 26))) := ⟨_, rfl⟩
  rw [← W2.out] at q0 q1 q2 hB3
  have B2 := Lib.hid hB3
  have Q2 := Lib.hid (And.intro q0 (And.intro q1 q2))
  have CT : Hid (∀ w3, Below w2.heap.size w2 w3 → _) := Lib.hid (fun w3 h3 => timesA_is cb lb hm nm _ w3 (HA.out.2.1.later (B2.out.trans (h3.mono B2.out.size))))
  have nM : NmB8 (lb.map negT8) := by
    intro x hx
    obtain ⟨y, hy, rfl⟩ := List.mem_map.1 hx
    exact nm y hy
  obtain ⟨db, hdb⟩ : ∃ db, IntKind.i64.wrap (-cb) = db := ⟨_, rfl⟩
  have hMl : lb.length = (lb.map negT8).length := by rw [List.length_map]
  obtain ⟨M, hM⟩ : ∃ M, lb.map negT8 = M := ⟨_, rfl⟩
  rw [hM] at nM hMl
  have HMl := Lib.hid hMl
  have CS : Hid (∀ (w4 : World) (v4 : Value), Below w2.heap.size w2 w4 → AV w4 0 v4 M → Cap8 v4 → _) := Lib.hid (fun w4 v4 h4 av cv => impl_SubA ca db la M hl (by omega) nl nM _ v4 w4 (HA.out.1.later (B2.out.trans (h4.mono B2.out.size))) av HA.out.2.2 cv)
  rw [hdb, hM]
  rw [hdb, hM] at CT
  obtain ⟨ok, hok⟩ : ∃ ok, subOk8 ca db la M = ok := ⟨_, rfl⟩
  obtain ⟨dd, hdd⟩ : ∃ dd, IntKind.i64.wrap (ca - db) = dd := ⟨_, rfl⟩
  obtain ⟨L, hL⟩ : ∃ L, less8 (la.length + M.length) la M = L := ⟨_, rfl⟩
  rw [hok, hdd, hL] at CS
  rw [hok, hdd, hL]
  clear ha hb hca nl nm hB3 q0 q1 q2 nM hdb hok hdd hL hMl
  go_enter Try.func9, Try.ntmps9
  go_wp2_with fail
  rw [← W2.out]
  clear W2
  have bd : Below w2.heap.size w2 w2.drew := (Below.refl _ w2).drew
  have hsz2 : w.heap.size + 1 + 1 < w2.heap.size := (Array.getElem?_eq_some_iff.1 Q2.out.2.2).1
  have bk : K8 w2.heap.size (w.heap.size + 1 + 1) w2 w2.drew := K8.of bd
  refine wp_region_held_drew (S := K8 w2.heap.size (w.heap.size + 1 + 1) w2) (by kernel_rfl) bk (fun hHeld => ?_)
  refine wpAnyH_take (i := 0) (v := .agg #[.int .i64 ca, .slice a1 la.length c1]) rfl (by kernel_rfl) (by kernel_rfl) (by kernel_rfl) (fun _ _ _ h => h) (Or.inl ⟨by rfl, ?ya0⟩) hHeld ?_
  case ya0 => intro w hSw; obtain ⟨⟨j0, j1⟩, _⟩ := blk2 (K8.heap hSw (by omega) (by omega) Q2.out.1); go_simp
  simp only [Act.put, List.getElem_toArray, List.getElem_cons_succ, List.getElem_cons_zero, List.setIfInBounds_toArray, List.set_cons_zero, List.set_cons_succ]
  refine wpAnyH_take (i := 1) (v := .agg #[.int .i64 cb, .slice a2 lb.length c2]) rfl (by kernel_rfl) (by kernel_rfl) (by kernel_rfl) (fun _ _ _ h => h) (Or.inl ⟨by rfl, ?ya1⟩) hHeld ?_
  case ya1 => intro w hSw; obtain ⟨⟨j0, j1⟩, _⟩ := blk2 (K8.heap hSw (by omega) (by omega) Q2.out.2.1); go_simp
  simp only [Act.put, List.getElem_toArray, List.getElem_cons_succ, List.getElem_cons_zero, List.setIfInBounds_toArray, List.set_cons_zero, List.set_cons_succ]
  refine wpAnyH_ready (rs := [2]) (by kernel_rfl) (by simp) ?_
  refine AllReadyH.cons rfl (fun K hK => ?_) AllReadyH.nil
  rw [if_pos (by rfl)]
  simp only [List.getElem_toArray, List.getElem_cons_succ, List.getElem_cons_zero]
  go_wp2_with fail
  refine (CT.out _ bd).mono ?_
  rintro e w4 ⟨v4, rfl, own4, hb4⟩
  rw [HMl.out] at own4
  have CV4 := Lib.hid (capOwn8 own4)
  obtain ⟨a4, c4, rfl⟩ := ownShape own4
  have AV4 := Lib.hid (AV.ofOwn8 own4)
  have BB4 := Lib.hid (bd.trans (hb4.mono bd.size))
  clear own4
  go_wp2_with fail
  refine hK.out _ _ (hHeld.trans (K8.of (hb4.mono bd.size))) (fun hHeld => ?_)
  refine wpAnyH_ready (rs := [3]) (by kernel_rfl) (by simp) ?_
  refine AllReadyH.cons rfl (fun K hK => ?_) AllReadyH.nil
  rw [if_pos (by rfl)]
  simp only [List.getElem_toArray, List.getElem_cons_succ, List.getElem_cons_zero]
  go_wp2_with fail
  refine (CS.out _ _ BB4.out AV4.out CV4.out).mono ?_
  rintro e w5 ⟨v5, rfl, own5, hb5⟩
  have OW5 := Lib.hid own5
  have BB5 := Lib.hid (BB4.out.trans (hb5.mono BB4.out.size))
  have hs4 := BB4.out.size
  clear own5
  go_wp2_with fail
  refine hK.out _ _ (hHeld.trans (K8.of (hb5.mono BB4.out.size))) (fun hHeld => ?_)
  cases ok with
  | false =>
    have r5 := (BB5.out.block _ hsz2).trans Q2.out.2.2
    have R5 := Lib.hid r5
    have hdz : w2.drew.heap.size = w2.heap.size := rfl
    rw [show pairR8 false dd v5 = .tuple #[.agg #[.int .i64 0, .slice Option.none 0 0], .bool false] from rfl]
    refine wpAnyH_take (i := 4) (v := .agg #[.int .i64 0, .slice Option.none 0 0]) rfl (by kernel_rfl) (by kernel_rfl) (by kernel_rfl) (fun _ _ _ h => h) (Or.inl ⟨by rfl, ?yf4⟩) hHeld ?_
    case yf4 => intro w hSw; go_simp
    simp only [Act.put, List.getElem_toArray, List.getElem_cons_succ, List.getElem_cons_zero, List.setIfInBounds_toArray, List.set_cons_zero, List.set_cons_succ]
    refine wpAnyH_take (i := 5) (v := .bool false) rfl (by kernel_rfl) (by kernel_rfl) (by kernel_rfl) (fun _ _ _ h => h) (Or.inl ⟨by rfl, ?yf5⟩) hHeld ?_
    case yf5 => intro w hSw; go_simp
    simp only [Act.put, List.getElem_toArray, List.getElem_cons_succ, List.getElem_cons_zero, List.setIfInBounds_toArray, List.set_cons_zero, List.set_cons_succ]
    refine wpAnyH_ready (rs := [6]) (by kernel_rfl) (by simp) ?_
    refine AllReadyH.cons rfl (fun K hK => ?_) AllReadyH.nil
    rw [if_pos (by rfl)]
    simp only [List.getElem_toArray, List.getElem_cons_succ, List.getElem_cons_zero]
    obtain ⟨⟨e0, e1⟩, k0, k1⟩ := blk2 r5
    clear r5
    go_wp2_with fail
    refine hK.out _ _ ((hHeld.trans (K8.set _ 0 _)).trans (K8.set _ 1 _)) (fun hHeld => ?_)
    refine wpAnyH_take (i := 7) (v := .bool false) rfl (by kernel_rfl) (by kernel_rfl) (by kernel_rfl) (fun _ _ _ h => h) (Or.inl ⟨by rfl, ?yf7⟩) hHeld ?_
    case yf7 => intro w hSw; go_simp
    simp only [Act.put, List.getElem_toArray, List.getElem_cons_succ, List.getElem_cons_zero, List.setIfInBounds_toArray, List.set_cons_zero, List.set_cons_succ]
    refine wpAnyH_done (by kernel_rfl) ?_ _
    have f0 := Go.heap_setCell_same _ _ 0 _ _ (.int .i64 0) R5.out
    have f1 := Go.heap_setCell_same _ _ 1 _ _ (.slice Option.none 0 0) f0
    obtain ⟨⟨z0, z1⟩, _⟩ := blk2 f1
    have BZ := Lib.hid (((B2.out.trans (BB5.out.mono B2.out.size)).setCell (p := ⟨w.heap.size + 1 + 1, 0, Option.none⟩) (Nat.le_trans (Nat.le_succ _) (Nat.le_succ _)) (.int .i64 0)).setCell (p := ⟨w.heap.size + 1 + 1, 1, Option.none⟩) (Nat.le_trans (Nat.le_succ _) (Nat.le_succ _)) (.slice Option.none 0 0))
    clear hHeld e0 e1 k0 k1 f0 f1 bd bk
    go_wp2
    refine bodyPost_ret (v := .tuple #[.agg #[.int .i64 0, .slice Option.none 0 0], .bool false]) (by simp [results, Try.results9, go_sem, z0, z1]) rfl ⟨.slice Option.none 0 0, rfl, ?_, BZ.out⟩
    intro h; cases h
  | true =>
    have r5 := (BB5.out.block _ hsz2).trans Q2.out.2.2
    have R5 := Lib.hid r5
    have hdz : w2.drew.heap.size = w2.heap.size := rfl
    obtain ⟨a5, c5, rfl⟩ := ownShape (OW5.out rfl)
    have OWT := Lib.hid (OW5.out rfl)
    rw [show pairR8 true dd (.slice a5 L.length c5) = .tuple #[.agg #[.int .i64 dd, .slice a5 L.length c5], .bool true] from rfl]
    refine wpAnyH_take (i := 4) (v := .agg #[.int .i64 dd, .slice a5 L.length c5]) rfl (by kernel_rfl) (by kernel_rfl) (by kernel_rfl) (fun _ _ _ h => h) (Or.inl ⟨by rfl, ?yt4⟩) hHeld ?_
    case yt4 => intro w hSw; go_simp
    simp only [Act.put, List.getElem_toArray, List.getElem_cons_succ, List.getElem_cons_zero, List.setIfInBounds_toArray, List.set_cons_zero, List.set_cons_succ]
    refine wpAnyH_take (i := 5) (v := .bool true) rfl (by kernel_rfl) (by kernel_rfl) (by kernel_rfl) (fun _ _ _ h => h) (Or.inl ⟨by rfl, ?yt5⟩) hHeld ?_
    case yt5 => intro w hSw; go_simp
    simp only [Act.put, List.getElem_toArray, List.getElem_cons_succ, List.getElem_cons_zero, List.setIfInBounds_toArray, List.set_cons_zero, List.set_cons_succ]
    refine wpAnyH_ready (rs := [6]) (by kernel_rfl) (by simp) ?_
    refine AllReadyH.cons rfl (fun K hK => ?_) AllReadyH.nil
    rw [if_pos (by rfl)]
    simp only [List.getElem_toArray, List.getElem_cons_succ, List.getElem_cons_zero]
    obtain ⟨⟨e0, e1⟩, k0, k1⟩ := blk2 r5
    clear r5
    go_wp2_with fail
    refine hK.out _ _ ((hHeld.trans (K8.set _ 0 _)).trans (K8.set _ 1 _)) (fun hHeld => ?_)
    refine wpAnyH_take (i := 7) (v := .bool true) rfl (by kernel_rfl) (by kernel_rfl) (by kernel_rfl) (fun _ _ _ h => h) (Or.inl ⟨by rfl, ?yt7⟩) hHeld ?_
    case yt7 => intro w hSw; go_simp
    simp only [Act.put, List.getElem_toArray, List.getElem_cons_succ, List.getElem_cons_zero, List.setIfInBounds_toArray, List.set_cons_zero, List.set_cons_succ]
    refine wpAnyH_done (by kernel_rfl) ?_ _
    have f0 := Go.heap_setCell_same _ _ 0 _ _ (.int .i64 dd) R5.out
    have f1 := Go.heap_setCell_same _ _ 1 _ _ (.slice a5 L.length c5) f0
    obtain ⟨⟨z0, z1⟩, _⟩ := blk2 f1
    have BZ := Lib.hid (((B2.out.trans (BB5.out.mono B2.out.size)).setCell (p := ⟨w.heap.size + 1 + 1, 0, Option.none⟩) (Nat.le_trans (Nat.le_succ _) (Nat.le_succ _)) (.int .i64 dd)).setCell (p := ⟨w.heap.size + 1 + 1, 1, Option.none⟩) (Nat.le_trans (Nat.le_succ _) (Nat.le_succ _)) (.slice a5 L.length c5))
    clear hHeld e0 e1 k0 k1 f0 f1 bd bk
    go_wp2
    refine bodyPost_ret (v := .tuple #[.agg #[.int .i64 dd, .slice a5 L.length c5], .bool true]) (by simp [results, Try.results9, go_sem, z0, z1]) rfl ⟨.slice a5 L.length c5, rfl, ?_, BZ.out⟩
    intro _
    exact ownMono8 (by omega) (own_later8 OWT.out fun g _ hg _ => by
      have hne : g ≠ w.heap.size + 1 + 1 := by omega
      exact (Below.heap_setCell _ _ _ _ hne).trans (Below.heap_setCell _ _ _ _ hne))
end Go.Proofs.Ytfacenfiocdbgaa
/-
  The contract of markText.
-/
namespace Go.Proofs.Ytfacenfiocdbgaa
open Go.RowKit Go.Lib
set_option linter.unusedSimpArgs false

theorem conv1M (w : World) (x : Int) (h0 : 0 ≤ x) (h1 : x < 256) :
    (convert 22 9 (.slice (some ⟨w.heap.size, 0, none⟩) 1 1)).run Try.prog (w.alloc (.cells #[.int .u8 x] 5)) = .ok (.string ⟨[UInt8.ofNat x.toNat].toArray⟩) (w.alloc (.cells #[.int .u8 x] 5)) := by
  refine run_convert_bytes_back (P := Try.prog) _ 22 9 5 ⟨w.heap.size, 0, none⟩ 1 [UInt8.ofNat x.toNat] Try.underlying22 Try.underlying5 Try.underlying9 ?_
  intro j hj
  simp at hj
  subst hj
  have e : ((UInt8.ofNat x.toNat).toNat : Int) = x := by simp; omega
  simp only [List.getElem_cons_zero, e]
  simp [Addr.add, World.cell?_alloc_new]
theorem cat1M (a b : List UInt8) : (⟨a.toArray⟩ : ByteArray) ++ ⟨b.toArray⟩ = ⟨(a ++ b).toArray⟩ := by
  apply ByteArray.ext
  simp
theorem digs_lenM {n u : Nat} {t : List UInt8} (h : Digs n u t) (hn : n < 18446744073709551616) : t.length ≤ 20 := by
  have hl := nDigits_le20 n hn
  rw [← decDigits_length, h] at hl
  simp at hl
  omega
theorem str_stepM (u : Nat) (t : List UInt8) : (⟨#[48 + UInt8.ofNat (u % 10)]⟩ : ByteArray) ++ ⟨t.toArray⟩ = ⟨(UInt8.ofNat (48 + u % 10) :: t).toArray⟩ := by
  have e : UInt8.ofNat (48 + u % 10) = 48 + UInt8.ofNat (u % 10) := by simp
  rw [e]
  exact cat1M [_] t
theorem val_strM {a b : ByteArray} (h : a = b) : Value.string a = .string b := by rw [h]
theorem val_intM {k : IntKind} {a b : Int} (h : a = b) : Value.int k a = .int k b := by rw [h]
theorem ret_strM {a b : ByteArray} (h : a = b) : Ending.returned (.string a) = .returned (.string b) := by rw [h]
def mtext (k : Nat) : List UInt8 := 109 :: decDigits k
set_option maxHeartbeats 1000000 in
set_option maxRecDepth 100000 in
theorem markText_is (k : Nat) (h1 : 1 ≤ k) (h2 : k ≤ 100000000) (w : World) :
    Calls Try.prog 64 #[.int .i64 (k : Int)] w fun e w' => e = .returned (.string ⟨(mtext k).toArray⟩) ∧ Below w.heap.size w w' := by
  have hk0 : ¬ (k : Int) ≤ 0 := by omega
  go_enter Try.func64, Try.ntmps64
  go_wp2
  go_loopw [0, 3] (fun x s wr => ∃ (t : List UInt8) (u : Nat), s = .string ⟨t.toArray⟩ ∧ x = .int .i64 (u : Int) ∧ u ≤ k ∧ Hid (Digs k u t) ∧ Below w.heap.size w wr) (fun x _ _ => (RowKit.intOf x).natAbs)
  case atStart => exact ⟨[], k, rfl, rfl, Nat.le_refl _, digs_start _ h1, Below.refl _ _⟩
  case round =>
    obtain ⟨t, u, rfl, rfl, hu, hd, hb⟩ := hrel
    have hlt := digs_lenM hd.out (by omega)
    by_cases hz : u = 0
    · subst hz
      go_wp2
      go_ret
      exact ⟨ret_strM (by rw [mtext, digs_end hd.out]; exact cat1M [109] t), hb⟩
    · have hu0 : (0 : Int) < (u : Int) := by omega
      have e2 := conv1M wr (48 + ((u : Int) % 10)) (by omega) (by omega)
      go_wp2
      go_roundw
      case rel => exact ⟨_, u / 10, val_strM (str_stepM u t), val_intM (by omega), by omega, digs_step hd.out hz, hb.alloc hb.size _⟩
      case measure => simp [RowKit.intOf]; omega

end Go.Proofs.Ytfacenfiocdbgaa
