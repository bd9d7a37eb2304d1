/-
  Texts in one: RunP, RunSet, RunPut, RunNm, RunOk.
-/
import Derived.Test.YtfoghiminlbdaaaGreatZp
import Derived.Test.YtfoghiminlbdaaaGreatP12ofRun
import Derived.Deep.AppendLies
namespace Go.Proofs.YtfoghiminlbdaaaGreat
open Go.RowKit Go.Lib
set_option linter.unusedSimpArgs false
set_option linter.unusedVariables false
theorem Owns.regrow {w w' : World} {B H : Nat} {P : List VR} {r r' : VR} (h : Owns w B (P ++ [r])) (hg : w.grownBy w' r.1.ownBlock) (hn : w'.ownsRow B 3 1 r'.1 r'.2.length (ints r'.2)) (hat : ∀ g, r'.1.ownBlock = some g → r.1.ownBlock = some g ∨ g = H) (hH : w.heap.size ≤ H) : Owns w' B (P ++ [r']) := by
  have hp := h.apart
  rw [List.pairwise_append] at hp
  refine ⟨fun q hq => ?_, ?_⟩
  · rcases List.mem_append.1 hq with hq | hq
    · exact ownG (h.own q (List.mem_append_left _ hq)) hg (fun k hk ek => hp.2.2 q hq r (by simp) k hk ek)
    · simp at hq; subst hq; exact hn
  · rw [List.pairwise_append]
    refine ⟨hp.1, by simp, fun a ha b hb => ?_⟩
    simp at hb; subst hb
    intro k hk ek
    rcases hat k ek with e | e
    · exact hp.2.2 a ha r (by simp) k hk e
    · have := ((h.own a (List.mem_append_left _ ha)).lt k hk).2
      omega
def SimR (w0 : World) (R : Nat) (ts : List AR) (ns : List ByteArray) (va vb nv sa sv : Value) (w : World) (r : Nat × St) (e : Ending) (w' : World) : Prop :=
  ∃ rs' so', e = .returned (.int .i64 (r.1 : Int)) ∧ RS w0 w' R ts ns rs' r.2 va vb nv sa sv so' ∧ KQ R w w' ∧ w.heap.size ≤ w'.heap.size
theorem RS.print {w0 w w4 w6 : World} {R g c : Nat} {ts : List AR} {ns : List ByteArray} {rs : List VR} {st : St} {va vb nv sa sv so : Value} {n : Int} (h : RS w0 w R ts ns rs st va vb nv sa sv so) (hb4 : Below w.heap.size w w4)
    (hown : w6.ownsRow w0.heap.size 3 1 (.slice (some ⟨g, 0, Option.none⟩) (st.O.length + 1) c) (st.O.length + 1) (ints st.O ++ [.int .i64 n])) (hg : w4.grownBy w6 so.ownBlock) (hat : so.ownBlock = some g ∨ g = w4.heap.size) :
    RS w0 (w6.setCell ⟨R, 5, Option.none⟩ (.slice (some ⟨g, 0, Option.none⟩) (st.O.length + 1) c)) R ts ns rs { st with O := st.O ++ [n] } va vb nv sa sv (.slice (some ⟨g, 0, Option.none⟩) (st.O.length + 1) c) ∧ KQ R w (w6.setCell ⟨R, 5, Option.none⟩ (.slice (some ⟨g, 0, Option.none⟩) (st.O.length + 1) c)) := by
  have h4 := h.later hb4
  have hso := h4.own.own (so, st.O) (by simp)
  have e0 : (rs ++ [(sv, st.V), (so, st.O)]) = (rs ++ [(sv, st.V)]) ++ [(so, st.O)] := by simp
  have o4 : Owns w4 w0.heap.size ((rs ++ [(sv, st.V)]) ++ [(so, st.O)]) := by rw [← e0]; exact h4.own
  have o6 := o4.regrow (r' := (.slice (some ⟨g, 0, Option.none⟩) (st.O.length + 1) c, st.O ++ [n])) (H := w4.heap.size) hg (by rw [List.length_append]; simp only [ints, List.map_append]; exact hown) (fun k hk => by injection hk with hk; subst hk; exact hat) (Nat.le_refl _)
  have b6 : w6.heap[R]? = some (.cells #[va, vb, nv, sa, sv, so, .int .i64 0, .int .i64 (st.f : Int)] 70 (0, 0)) := (hg.block R (lt_heap h4.blk) (fun e => own_ne hso h4.blk (by decide) e.symm)).trans h4.blk
  have hs := grownBy_set (w := w6) (g := R) ⟨R, 5, Option.none⟩ rfl (.slice (some ⟨g, 0, Option.none⟩) (st.O.length + 1) c)
  have sb := Go.heap_setCell_same w6 R 5 _ _ (.slice (some ⟨g, 0, Option.none⟩) (st.O.length + 1) c) b6
  have q6 : w6.ownsRow w0.heap.size 31 1 sa rs.length (rs.map (·.1)) := ownG h4.out hg (fun k hk => own_own h4.out hso (by decide) k hk)
  have n6 : w6.ownsRow w0.heap.size 9 1 nv ns.length (ns.map Value.string) := ownG h4.nm hg (fun k hk => own_own h4.nm hso (by decide) k hk)
  have l6 : Below w0.heap.size w0 w6 := h4.low.trans (below_of_grown hg (fun k hk => (hso.lt k hk).1) h4.ge.2)
  refine ⟨⟨by rw [sb]; rfl, ?_, ?_, h.a, ?_, h.p, l6.setCell (p := ⟨R, 5, Option.none⟩) h.ge.1 _, h.ge.1, by rw [World.size_setCell]; exact Nat.le_trans h4.ge.2 hg.size⟩, ?_⟩
  · exact ownG q6 hs (fun k hk ek => by injection ek with ek; subst ek; exact own_ne q6 b6 (by decide) hk)
  · have e1 : (rs ++ [(sv, st.V), (Value.slice (some ⟨g, 0, Option.none⟩) (st.O.length + 1) c, st.O ++ [n])]) = (rs ++ [(sv, st.V)]) ++ [(.slice (some ⟨g, 0, Option.none⟩) (st.O.length + 1) c, st.O ++ [n])] := by simp
    rw [e1]
    exact ⟨fun r hr => ownG (o6.own r hr) hs (fun k hk ek => by injection ek with ek; subst ek; exact own_ne (o6.own r hr) b6 (by decide) hk), o6.apart⟩
  · exact ownG n6 hs (fun k hk ek => by injection ek with ek; subst ek; exact own_ne n6 b6 (by decide) hk)
  · intro N ar t hN ht hh
    have x4 := (hb4.block _ (lt_heap hh)).trans hh
    have x6 := (hg.block N (lt_heap x4) (fun e => own_ne hso x4 ht e.symm)).trans x4
    exact (Below.heap_setCell _ _ _ _ hN).trans x6
theorem infoI8r : (Tryz.prog.info? 3).map (fun i => (i.zero, i.size, i.bytes)) = some (some (.int .i64 0), 1, 8) := by kernel_rfl
theorem boxS (w : World) (h : SH) (v1 v2 v3 v4 u : Value) (t : TypeId) : (w.alloc (.cells (sarr h v1 v2 v3 v4 u) t)).rangeAt w.heap.size 0 (scells h v1 v2 v3 v4 u) := blk_range (arr := sarr h v1 v2 v3 v4 u) (blkLast _ _)
theorem boxX1 {w : World} {N : Nat} {h : SH} {v1 v2 v3 v4 u : Value} (r : w.rangeAt N 0 (scells h v1 v2 v3 v4 u)) : w.rangeAt N 2 [.int .i64 h.x1.h.k, .int .i64 h.x1.h.n, .string h.x1.h.s, v1] := rangeAt_part r (ds := [.int .i64 h.k, .string h.s]) (es := [.int .i64 h.x1.h.k, .int .i64 h.x1.h.n, .string h.x1.h.s, v1]) rfl
theorem boxX2 {w : World} {N : Nat} {h : SH} {v1 v2 v3 v4 u : Value} (r : w.rangeAt N 0 (scells h v1 v2 v3 v4 u)) : w.rangeAt N 6 [.int .i64 h.x2.h.k, .int .i64 h.x2.h.n, .string h.x2.h.s, v2] := rangeAt_part r (ds := [.int .i64 h.k, .string h.s, .int .i64 h.x1.h.k, .int .i64 h.x1.h.n, .string h.x1.h.s, v1]) (es := [.int .i64 h.x2.h.k, .int .i64 h.x2.h.n, .string h.x2.h.s, v2]) rfl
set_option maxHeartbeats 2000000 in
set_option maxRecDepth 100000 in
theorem print_is {w0 : World} {R : Nat} {ts : List AR} {ns : List ByteArray} {rs : List VR} {st : St} {va vb nv sa sv so fv : Value} {bs : List AR} {JJ : World → Prop} (hb : RB ts ns st) (hO : st.O.length ≤ 1048576) (hn : NmC R ns nv sv fv bs JJ) (hvb : vb.oneCell' = true) (h : SH) (hk1 : ¬ h.k = 1) (hk2 : ¬ h.k = 2) (ht : toldX 8 h.x2 = true) (w : World) (v1 v2 v3 v4 u : Value) (hr : RS w0 w R ts ns rs st va vb nv sa sv so) (hJ : JJ w) (hv : HV w 0 h v1 v2 v3 v4) :
    Calls Tryz.prog 141 #[.pointer (some ⟨R, 0, Option.none⟩), sagg h v1 v2 v3 v4 u, fv] w (SimR w0 R ts ns va vb nv sa sv w (simple ts ns bs h st)) := by
  obtain ⟨a5, b5, hso⟩ := iownShape (hr.own.own (so, st.O) (by simp))
  simp only at hso
  subst hso
  have H := hid hr
  have HB := hid hb
  have HN := hid hn
  have HT := hid ht
  have HVB := hid hvb
  have hbA := alloc_below w (.cells (sarr h v1 v2 v3 v4 u) 119)
  have BA := hid hbA
  have R0 := hid (hr.later hbA)
  have J0 : Hid (JJ (w.alloc (.cells (sarr h v1 v2 v3 v4 u) 119))) := hn.kq _ _ hJ (KQ.of hbA)
  have E2 := hid (boxX2 (boxS w h v1 v2 v3 v4 u 119))
  have V2 := hid (hv.e2.later hbA)
  obtain ⟨i0, hi, hz0, hz1, hz2⟩ := info_parts infoI8r
  have HI := hid (And.intro hi (And.intro hz0 (And.intro hz1 hz2)))
  obtain ⟨kf, caps, hfv, _, _⟩ := (hn.lk st.V (by have := hb.v; omega)).is
  have o6 : fv.oneCell' = true := by rw [hfv]; rfl
  have hsim : Hid ((evS ts ns bs st h.x2 = none → simple ts ns bs h st = (1, st)) ∧ ∀ n, evS ts ns bs st h.x2 = some n → simple ts ns bs h st = (0, { st with O := st.O ++ [n] })) :=
    ⟨fun e => by rw [simple, if_neg hk1, if_neg hk2, e], fun n e => by rw [simple, if_neg hk1, if_neg hk2, e]⟩
  clear hr hb hn ht hvb hbA hJ hv hi hz0 hz1 hz2 hfv hk1 hk2
  go_enter Tryz.func141, Tryz.ntmps141
  go_wp2_with (refine wpList_load_mid rfl 43 _ rfl w.heap.size 6 rfl _ _ E2.out Tryz.underlying43 rfl sizeExp4 ?_)
  refine (value_is HB.out HN.out HVB.out h.x2 HT.out _ v2 R0.out J0.out V2.out).mono ?_
  rintro e w2 ⟨he, hb2⟩
  have R2 := hid (R0.out.later hb2)
  have B2 := hid (BA.out.trans (hb2.mono BA.out.size))
  obtain ⟨r, hrr⟩ : ∃ r, evS ts ns bs st h.x2 = r := ⟨_, rfl⟩
  rw [hrr] at he hsim
  clear hb2 hrr R0 E2 V2 BA
  cases r with
  | none =>
    obtain rfl : e = .returned (.tuple #[.int .i64 0, .bool false]) := he
    have hs1 := hid (hsim.out.1 rfl)
    go_wp2
    go_ret
    exact ⟨rs, _, (by rw [hs1.out]; rfl), (by rw [hs1.out]; exact R2.out), KQ.of B2.out, B2.out.size⟩
  | some n =>
    obtain rfl : e = .returned (.tuple #[.int .i64 n, .bool true]) := he
    have hs1 := hid (hsim.out.2 n rfl)
    obtain ⟨_, _, _, c5, _, f5⟩ := R2.out.cells
    replace f5 := f5 5
    have HO2 := hid (R2.out.own.own (.slice a5 st.O.length b5, st.O) (by simp))
    have hsz := R2.out.ge.2
    clear hsim
    go_wp2_with (refine wpList_append_lies _ rfl _ _ 31 rfl w0.heap.size 3 i0 _ 1 8 Tryz.underlying31 HI.out.1 HI.out.2.1 HI.out.2.2.1 HI.out.2.2.2 rfl (by decide) (.slice a5 st.O.length b5) st.O.length (ints st.O) rfl (ownB HO2.out (alloc_below _ _)) ⟨w2.heap.size, 0, Option.none⟩ 1 1 [.int .i64 n] rfl rfl (new1 _ _ _) (by intro u hu; simp at hu; subst hu; rfl) (by decide) (by unfold maxLen; omega) (by omega) (by simp; omega) (w2.heap.size + 1) (by simp) ?_; intro g c6 w6 hown6 hgrow6 hat6 hlt6; have N6 := hid (R2.out.print (n := n) (alloc_below w2 (.cells #[.int .i64 n] 3)) hown6 hgrow6 (by simpa using hat6)); have c56 : w6.cell? ⟨R, 5, Option.none⟩ = some (.slice a5 st.O.length b5) := (hgrow6.cell (keeps (alloc_below _ _) c5) (fun e => own_ne (ownB HO2.out (alloc_below _ _)) ((alloc_below w2 (.cells #[.int .i64 n] 3)).block _ (lt_heap R2.out.blk) |>.trans R2.out.blk) (by decide) e.symm)); have f56 : w6.frozen? ⟨R, 5, Option.none⟩ = false := (World.frozen?_of_block (hgrow6.block R (by have := lt_heap R2.out.blk; simp; omega) (fun e => own_ne (ownB HO2.out (alloc_below _ _)) ((alloc_below w2 (.cells #[.int .i64 n] 3)).block _ (lt_heap R2.out.blk) |>.trans R2.out.blk) (by decide) e.symm))).trans ((World.frozen?_of_block ((alloc_below w2 (.cells #[.int .i64 n] 3)).block R (lt_heap R2.out.blk))).trans f5); have S6 : Hid (w2.heap.size ≤ w6.heap.size) := (Nat.le_trans (by simp) hgrow6.size); clear hown6 hgrow6 hat6 hlt6)
    go_ret
    exact ⟨rs, _, (by rw [hs1.out]; rfl), (by rw [hs1.out]; exact N6.out.1), (KQ.of B2.out).trans N6.out.2, by rw [World.size_setCell]; exact Nat.le_trans B2.out.size S6.out⟩
theorem RS.set {w0 w : World} {R g c k : Nat} {ts : List AR} {ns : List ByteArray} {rs : List VR} {st : St} {va vb nv sa so : Value} {n : Int} (h : RS w0 w R ts ns rs st va vb nv sa (.slice (some ⟨g, 0, Option.none⟩) st.V.length c) so) :
    RS w0 (w.setCell ⟨g, k, Option.none⟩ (.int .i64 n)) R ts ns rs { st with V := st.V.set k n } va vb nv sa (.slice (some ⟨g, 0, Option.none⟩) st.V.length c) so ∧ KQ R w (w.setCell ⟨g, k, Option.none⟩ (.int .i64 n)) := by
  have hv := h.own.own (.slice (some ⟨g, 0, Option.none⟩) st.V.length c, st.V) (by simp)
  have hs := grownBy_set (w := w) (g := g) ⟨g, k, Option.none⟩ rfl (.int .i64 n)
  have hne : ∀ (N : Nat) (ar : Array Value) (t : TypeId), t ≠ 3 → w.heap[N]? = some (.cells ar t (0, 0)) → N ≠ g := fun N ar t ht hN e => own_ne hv hN ht (by rw [e]; rfl)
  have n1 := iown_put (j := k) hv (.int .i64 n)
  have e1 : (ints st.V).set k (.int .i64 n) = ints (st.V.set k n) := by simp only [ints, List.map_set]
  simp only at n1
  rw [e1] at n1
  refine ⟨⟨(hs.block R (lt_heap h.blk) (fun e => hne R _ _ (by decide) h.blk (by injection e))).trans h.blk, ?_, ?_, h.a, ?_, h.p, h.low.setCell (p := ⟨g, k, Option.none⟩) (hv.lt g rfl).1 _, h.ge.1, by rw [World.size_setCell]; exact h.ge.2⟩, ?_⟩
  · exact ownG h.out hs (fun k hk => own_own h.out hv (by decide) k hk)
  · exact Owns.put (P := rs) (Q := [(so, st.O)]) (r := (.slice (some ⟨g, 0, Option.none⟩) st.V.length c, st.V)) (r' := (.slice (some ⟨g, 0, Option.none⟩) st.V.length c, st.V.set k n)) h.own rfl hs (by rw [List.length_set]; exact n1)
  · exact ownG h.nm hs (fun k hk => own_own h.nm hv (by decide) k hk)
  · intro N ar t _ ht hh
    exact (Below.heap_setCell _ _ _ _ (hne N ar t ht hh)).trans hh
set_option maxHeartbeats 2000000 in
set_option maxRecDepth 100000 in
theorem set_is {w0 : World} {R : Nat} {ts : List AR} {ns : List ByteArray} {rs : List VR} {st : St} {va vb nv sa sv so fv : Value} {bs : List AR} {JJ : World → Prop} (hb : RB ts ns st) (hn : NmC R ns nv sv fv bs JJ) (hvb : vb.oneCell' = true) (h : SH) (hk1 : h.k = 1) (k : Nat) (hi : idxGo ns 0 h.s = (k : Int)) (hkv : k < st.V.length) (ht : toldX 8 h.x2 = true) (w : World) (v1 v2 v3 v4 u : Value) (hr : RS w0 w R ts ns rs st va vb nv sa sv so) (hJ : JJ w) (hv : HV w 0 h v1 v2 v3 v4) :
    Calls Tryz.prog 138 #[.pointer (some ⟨R, 0, Option.none⟩), sagg h v1 v2 v3 v4 u, fv] w (SimR w0 R ts ns va vb nv sa sv w (simple ts ns bs h st)) := by
  obtain ⟨g, c, hsv⟩ : ∃ g c, sv = .slice (some ⟨g, 0, Option.none⟩) st.V.length c := by
    have := hr.own.own (sv, st.V) (by simp)
    obtain ⟨q, hq⟩ : ∃ q, st.V.length = q + 1 := ⟨st.V.length - 1, by omega⟩
    simp only [hq] at this
    obtain ⟨g, c, e, _⟩ := own_some this
    exact ⟨g, c, by rw [hq]; exact e⟩
  subst hsv
  obtain ⟨a2, b2, hnv⟩ := iownShape hr.nm
  subst hnv
  have HB := hid hb
  have HN := hid hn
  have HT := hid ht
  have HVB := hid hvb
  have HIX := hid hi
  have hbA := alloc_below w (.cells (sarr h v1 v2 v3 v4 u) 119)
  have BA := hid hbA
  have R0 := hid (hr.later hbA)
  have J0 : Hid (JJ (w.alloc (.cells (sarr h v1 v2 v3 v4 u) 119))) := hn.kq _ _ hJ (KQ.of hbA)
  have SB := hid (boxS w h v1 v2 v3 v4 u 119)
  have SK := hid (blkLast w (.cells (sarr h v1 v2 v3 v4 u) 119))
  have E2 := hid (boxX2 SB.out)
  have V2 := hid (hv.e2.later hbA)
  obtain ⟨kf, caps, hfv, _, _⟩ := (hn.lk st.V (by have := hb.v; omega)).is
  have o6 : fv.oneCell' = true := by rw [hfv]; rfl
  have hsim : Hid ((evS ts ns bs st h.x2 = none → simple ts ns bs h st = (1, st)) ∧ ∀ n, evS ts ns bs st h.x2 = some n → simple ts ns bs h st = (0, { st with V := st.V.set k n })) :=
    ⟨fun e => by rw [simple, if_pos hk1, e], fun n e => by rw [simple, if_pos hk1, e, hi]; rfl⟩
  have hkI : (k : Int) < (st.V.length : Int) := by omega
  clear hr hb hn ht hvb hbA hJ hv hfv hk1 hi
  go_enter Tryz.func138, Tryz.ntmps138
  go_wp2_with (refine wpList_load_mid rfl 43 _ rfl w.heap.size 6 rfl _ _ E2.out Tryz.underlying43 rfl sizeExp4 ?_)
  refine (value_is HB.out HN.out HVB.out h.x2 HT.out _ v2 R0.out J0.out V2.out).mono ?_
  rintro e w2 ⟨he, hb2⟩
  have R2 := hid (R0.out.later hb2)
  have B2 := hid (BA.out.trans (hb2.mono BA.out.size))
  have S2 := hid (rangeAt_later SB.out hb2)
  have SK2 := hid ((hb2.block _ (lt_heap SK.out)).trans SK.out)
  obtain ⟨r, hrr⟩ : ∃ r, evS ts ns bs st h.x2 = r := ⟨_, rfl⟩
  rw [hrr] at he hsim
  clear hb2 hrr R0 E2 V2 BA SB SK
  cases r with
  | none =>
    obtain rfl : e = .returned (.tuple #[.int .i64 0, .bool false]) := he
    have hs1 := hid (hsim.out.1 rfl)
    go_wp2
    go_ret
    exact ⟨rs, _, (by rw [hs1.out]; rfl), (by rw [hs1.out]; exact R2.out), KQ.of B2.out, B2.out.size⟩
  | some n =>
    obtain rfl : e = .returned (.tuple #[.int .i64 n, .bool true]) := he
    have hs1 := hid (hsim.out.2 n rfl)
    clear hsim
    go_wp2_with fail
    have bd : Below w2.heap.size w2 w2.drew := (Below.refl _ w2).drew
    have Rd := hid (R2.out.later bd)
    have Bd := hid (B2.out.trans (bd.mono B2.out.size))
    obtain ⟨c2, _, c4, _, _, _⟩ := Rd.out.cells
    have cS := rangeAt_later S2.out bd 1 _ rfl
    clear bd
    refine wp_region_held_drew (S := fun w' => w'.cell? ⟨R, 4, Option.none⟩ = some (.slice (some ⟨g, 0, Option.none⟩) st.V.length c) ∧ w'.cell? ⟨R, 2, Option.none⟩ = some (.slice a2 ns.length b2) ∧ w'.cell? ⟨w.heap.size, 1, Option.none⟩ = some (.string h.s)) (by kernel_rfl) ⟨c4, c2, cS⟩ (fun hHeld => ?_)
    refine wpAnyH_take (i := 0) (v := .pointer (some ⟨R, 0, Option.none⟩)) rfl (by kernel_rfl) (by kernel_rfl) (by kernel_rfl) (fun _ _ _ h => h) (Or.inl ⟨by rfl, ?sa0⟩) hHeld ?_
    case sa0 => intro w hSw; go_simp
    simp only [Act.put, zp]
    refine wpAnyH_take (i := 1) (v := .pointer (some ⟨R, 0, Option.none⟩)) rfl (by kernel_rfl) (by kernel_rfl) (by kernel_rfl) (fun _ _ _ h => h) (Or.inl ⟨by rfl, ?sa1⟩) hHeld ?_
    case sa1 => intro w hSw; go_simp
    simp only [Act.put, zp]
    refine wpAnyH_take (i := 2) (v := .pointer (some ⟨R, 3, Option.none⟩)) rfl (by kernel_rfl) (by kernel_rfl) (by kernel_rfl) (fun _ _ _ h => h) (Or.inl ⟨by rfl, ?sa2⟩) hHeld ?_
    case sa2 => intro w hSw; go_simp
    simp only [Act.put, zp]
    refine wpAnyH_take (i := 3) (v := .pointer (some ⟨R, 4, Option.none⟩)) rfl (by kernel_rfl) (by kernel_rfl) (by kernel_rfl) (fun _ _ _ h => h) (Or.inl ⟨by rfl, ?sa3⟩) hHeld ?_
    case sa3 => intro w hSw; go_simp
    simp only [Act.put, zp]
    refine wpAnyH_take (i := 4) (v := .slice (some ⟨g, 0, Option.none⟩) st.V.length c) rfl (by kernel_rfl) (by kernel_rfl) (by kernel_rfl) (fun _ _ _ h => h) (Or.inl ⟨by rfl, ?sa4⟩) hHeld ?_
    case sa4 => intro w hSw; have h1 := hSw.1; go_simp
    simp only [Act.put, zp]
    refine wpAnyH_take (i := 5) (v := .pointer (some ⟨R, 0, Option.none⟩)) rfl (by kernel_rfl) (by kernel_rfl) (by kernel_rfl) (fun _ _ _ h => h) (Or.inl ⟨by rfl, ?sa5⟩) hHeld ?_
    case sa5 => intro w hSw; go_simp
    simp only [Act.put, zp]
    refine wpAnyH_take (i := 6) (v := .pointer (some ⟨R, 0, Option.none⟩)) rfl (by kernel_rfl) (by kernel_rfl) (by kernel_rfl) (fun _ _ _ h => h) (Or.inl ⟨by rfl, ?sa6⟩) hHeld ?_
    case sa6 => intro w hSw; go_simp
    simp only [Act.put, zp]
    refine wpAnyH_take (i := 7) (v := .pointer (some ⟨R, 2, Option.none⟩)) rfl (by kernel_rfl) (by kernel_rfl) (by kernel_rfl) (fun _ _ _ h => h) (Or.inl ⟨by rfl, ?sa7⟩) hHeld ?_
    case sa7 => intro w hSw; go_simp
    simp only [Act.put, zp]
    refine wpAnyH_take (i := 8) (v := .slice a2 ns.length b2) rfl (by kernel_rfl) (by kernel_rfl) (by kernel_rfl) (fun _ _ _ h => h) (Or.inl ⟨by rfl, ?sa8⟩) hHeld ?_
    case sa8 => intro w hSw; have h1 := hSw.2.1; go_simp
    simp only [Act.put, zp]
    refine wpAnyH_take (i := 9) (v := .pointer (some ⟨w.heap.size, 1, Option.none⟩)) rfl (by kernel_rfl) (by kernel_rfl) (by kernel_rfl) (fun _ _ _ h => h) (Or.inl ⟨by rfl, ?sa9⟩) hHeld ?_
    case sa9 => intro w hSw; go_simp
    simp only [Act.put, zp]
    refine wpAnyH_take (i := 10) (v := .string h.s) rfl (by kernel_rfl) (by kernel_rfl) (by kernel_rfl) (fun _ _ _ h => h) (Or.inl ⟨by rfl, ?sa10⟩) hHeld ?_
    case sa10 => intro w hSw; have h1 := hSw.2.2; go_simp
    simp only [Act.put, zp]
    refine wpAnyH_take (i := 12) (v := .int .i64 n) rfl (by kernel_rfl) (by kernel_rfl) (by kernel_rfl) (fun _ _ _ h => h) (Or.inl ⟨by rfl, ?sa12⟩) hHeld ?_
    case sa12 => intro w hSw; go_simp
    simp only [Act.put, zp]
    refine wpAnyH_ready (rs := [11]) (by kernel_rfl) (by simp) ?_
    refine AllReadyH.cons rfl (fun K hK => ?_) AllReadyH.nil
    rw [if_pos (by rfl)]
    simp only [zq]
    go_wp2_with fail
    refine (slicesIndex_is ns (by have := HB.out.n; omega) h.s _ _ Rd.out.names).mono ?_
    rintro e w3 ⟨rfl, rfl⟩
    rw [HIX.out]
    go_wp2_with fail
    refine hK.out _ _ hHeld (fun hHeld => ?_)
    refine wpAnyH_take (i := 13) (v := .pointer (some ⟨g, k, Option.none⟩)) rfl (by kernel_rfl) (by kernel_rfl) (by kernel_rfl) (fun _ _ _ h => h) (Or.inl ⟨by rfl, ?sb13⟩) hHeld ?_
    case sb13 => intro w hSw; go_simp
    simp only [Act.put, zp]
    refine wpAnyH_ready (rs := [14]) (by kernel_rfl) (by simp) ?_
    refine AllReadyH.cons rfl (fun K hK => ?_) AllReadyH.nil
    rw [if_pos (by rfl)]
    simp only [zq]
    have T := hid (Rd.out.set (k := k) (n := n))
    have hv0 := Rd.out.own.own (.slice (some ⟨g, 0, Option.none⟩) st.V.length c, st.V) (by simp)
    obtain ⟨x, hx⟩ : ∃ x, (ints st.V)[k]? = some x := ⟨(ints st.V)[k]'(by rw [ints_len]; exact hkv), List.getElem?_eq_getElem _⟩
    obtain ⟨d0, d1⟩ := iown_cell hv0 hx
    have hgR : R ≠ g := fun e => own_ne hv0 Rd.out.blk (by decide) (by rw [e]; rfl)
    have hgN : w.heap.size ≠ g := fun e => own_ne hv0 (show w2.drew.heap[w.heap.size]? = _ from SK2.out) (by decide) (by rw [e]; rfl)
    clear hv0 hx
    go_wp2_with fail
    have z1 : (w2.drew.setCell ⟨g, k, Option.none⟩ (.int .i64 n)).cell? ⟨R, 4, Option.none⟩ = some (.slice (some ⟨g, 0, Option.none⟩) st.V.length c) := by rw [World.cell?_setCell_other _ _ _ _ (fun e => by injection e with e; exact hgR (by first | exact e | exact e.symm))]; exact hHeld.1
    have z2 : (w2.drew.setCell ⟨g, k, Option.none⟩ (.int .i64 n)).cell? ⟨R, 2, Option.none⟩ = some (.slice a2 ns.length b2) := by rw [World.cell?_setCell_other _ _ _ _ (fun e => by injection e with e; exact hgR (by first | exact e | exact e.symm))]; exact hHeld.2.1
    have z3 : (w2.drew.setCell ⟨g, k, Option.none⟩ (.int .i64 n)).cell? ⟨w.heap.size, 1, Option.none⟩ = some (.string h.s) := by rw [World.cell?_setCell_other _ _ _ _ (fun e => by injection e with e; exact hgN (by first | exact e | exact e.symm))]; exact hHeld.2.2
    refine hK.out _ _ ⟨z1, z2, z3⟩ (fun hHeld => ?_)
    refine wpAnyH_done (by kernel_rfl) ?_ _
    clear hHeld
    go_wp2
    go_ret
    exact ⟨rs, _, (by rw [hs1.out]; rfl), (by rw [hs1.out]; exact T.out.1), (KQ.of Bd.out).trans T.out.2, by show w.heap.size ≤ (w2.drew.setCell ⟨g, k, Option.none⟩ (.int .i64 n)).heap.size; rw [World.size_setCell]; exact Bd.out.size⟩
theorem RS.put {w0 w : World} {R g c k m : Nat} {ts : List AR} {ns : List ByteArray} {rs : List VR} {st : St} {va vb nv sa sv so : Value} {n : Int} {xs : List Int} (h : RS w0 w R ts ns rs st va vb nv sa sv so) (hr : rs[k]? = some (.slice (some ⟨g, 0, Option.none⟩) xs.length c, xs)) :
    RS w0 (w.setCell ⟨g, m, Option.none⟩ (.int .i64 n)) R ts ns (rs.set k (.slice (some ⟨g, 0, Option.none⟩) xs.length c, xs.set m n)) { st with A := st.A.modify k fun ys => ys.set m n } va vb nv sa sv so ∧ KQ R w (w.setCell ⟨g, m, Option.none⟩ (.int .i64 n)) := by
  have hmem : ((.slice (some ⟨g, 0, Option.none⟩) xs.length c, xs) : VR) ∈ rs := List.mem_of_getElem? hr
  have hkl : k < rs.length := (List.getElem?_eq_some_iff.1 hr).1
  have hv := h.own.own (.slice (some ⟨g, 0, Option.none⟩) xs.length c, xs) (List.mem_append_left _ hmem)
  have hs := grownBy_set (w := w) (g := g) ⟨g, m, Option.none⟩ rfl (.int .i64 n)
  have hne : ∀ (N : Nat) (ar : Array Value) (t : TypeId), t ≠ 3 → w.heap[N]? = some (.cells ar t (0, 0)) → N ≠ g := fun N ar t ht hN e => own_ne hv hN ht (by rw [e]; rfl)
  have n1 := iown_put (j := m) hv (.int .i64 n)
  have e1 : (ints xs).set m (.int .i64 n) = ints (xs.set m n) := by simp only [ints, List.map_set]
  simp only at n1
  rw [e1] at n1
  have e2 : rs = rs.take k ++ (.slice (some ⟨g, 0, Option.none⟩) xs.length c, xs) :: rs.drop (k + 1) := by rw [← drop_step hr, List.take_append_drop]
  have e3 : rs.set k (.slice (some ⟨g, 0, Option.none⟩) xs.length c, xs.set m n) = rs.take k ++ (.slice (some ⟨g, 0, Option.none⟩) xs.length c, xs.set m n) :: rs.drop (k + 1) := List.set_eq_take_append_cons_drop .. |>.trans (by rw [if_pos hkl])
  have e4 : (rs.set k (.slice (some ⟨g, 0, Option.none⟩) xs.length c, xs.set m n)).map (·.1) = rs.map (·.1) := by
    rw [List.map_set]
    apply List.ext_getElem?
    intro i
    rw [List.getElem?_set]
    split
    · rename_i hik; subst hik
      rw [List.getElem?_map, hr]; simp [hkl]
    · rfl
  refine ⟨⟨(hs.block R (lt_heap h.blk) (fun e => hne R _ _ (by decide) h.blk (by injection e))).trans h.blk, ?_, ?_, ?_, ?_, h.p, h.low.setCell (p := ⟨g, m, Option.none⟩) (hv.lt g rfl).1 _, h.ge.1, by rw [World.size_setCell]; exact h.ge.2⟩, ?_⟩
  · rw [e4, List.length_set]
    exact ownG h.out hs (fun k hk => own_own h.out hv (by decide) k hk)
  · rw [e3, List.append_assoc, List.cons_append]
    refine Owns.put (P := rs.take k) (Q := rs.drop (k + 1) ++ [(sv, st.V), (so, st.O)]) (r := (.slice (some ⟨g, 0, Option.none⟩) xs.length c, xs)) (r' := (.slice (some ⟨g, 0, Option.none⟩) xs.length c, xs.set m n)) ?_ rfl hs (by rw [List.length_set]; exact n1)
    have := h.own
    rw [e2, List.append_assoc, List.cons_append] at this
    simpa using this
  · rw [List.map_set]
    apply List.ext_getElem?
    intro i
    rw [List.getElem?_set, List.getElem?_modify, ← h.a, List.getElem?_map]
    split
    · rename_i hik; subst hik
      rw [hr]; simp [hkl]
    · simp [List.getElem?_map]
  · exact ownG h.nm hs (fun k hk => own_own h.nm hv (by decide) k hk)
  · intro N ar t _ ht hh
    exact (Below.heap_setCell _ _ _ _ (hne N ar t ht hh)).trans hh
theorem inA_lt {ts : List AR} {A : List (List Int)} {s : ByteArray} {p x : Int} {k : Nat} (hk : arrGo ts 0 s = (k : Int)) (h : inA ts A s p = some x) : k < A.length := by
  rcases Nat.lt_or_ge k A.length with h1 | h1
  · exact h1
  · rw [inA_none hk (by omega)] at h; cases h
theorem rowAt {w0 w : World} {R k go oo g off len c : Nat} {ts : List AR} {ns : List ByteArray} {rs : List VR} {st : St} {va vb nv sv so : Value} {a : Option Addr} {n1 c1 : Nat} (h : RS w0 w R ts ns rs st va vb nv (.slice a n1 c1) sv so) (ha : a = some ⟨go, oo, Option.none⟩) (hc : w.cell? ⟨go, oo + k, Option.none⟩ = some (.slice (some ⟨g, off, Option.none⟩) len c)) (hk : k < rs.length) : ∃ r, rs[k]? = some r ∧ r.1 = .slice (some ⟨g, off, Option.none⟩) len c := by
  subst ha
  have hr : rs[k]? = some rs[k] := List.getElem?_eq_getElem hk
  refine ⟨rs[k], hr, ?_⟩
  rcases h.out.2 with ⟨e, _⟩ | ⟨g', cap', cur, e1, _⟩
  · cases e
  · injection e1 with e1 e2 e3
    injection e1 with e1
    injection e1 with e1 e4
    subst e1; subst e4; subst e2; subst e3
    have := own_cell h.out (j := k) (u := (rs[k]).1) (by rw [List.getElem?_map, hr]; rfl)
    rw [Nat.zero_add, this] at hc
    injection hc
theorem rowShape {w0 w : World} {R k g off len c : Nat} {ts : List AR} {ns : List ByteArray} {rs : List VR} {st : St} {va vb nv sa sv so : Value} {r : VR} (h : RS w0 w R ts ns rs st va vb nv sa sv so) (hr : rs[k]? = some r) (e : r.1 = .slice (some ⟨g, off, Option.none⟩) len c) : off = 0 ∧ len = r.2.length := by
  rcases (h.own.own r (List.mem_append_left _ (List.mem_of_getElem? hr))).2 with ⟨e0, _⟩ | ⟨g', cap', cur, e1, _⟩
  · rw [e] at e0; cases e0
  · rw [e] at e1
    injection e1 with e1 e2 e3
    injection e1 with e1
    injection e1 with e1 e4
    exact ⟨e4, e2⟩
theorem rowFree {w0 w : World} {R k g off len c : Nat} {ts : List AR} {ns : List ByteArray} {rs : List VR} {st : St} {va vb nv sa sv so : Value} {r : VR} (h : RS w0 w R ts ns rs st va vb nv sa sv so) (hr : rs[k]? = some r) (e : r.1 = .slice (some ⟨g, off, Option.none⟩) len c) (j : Nat) : w.frozen? ⟨g, j, Option.none⟩ = false := by
  rcases (h.own.own r (List.mem_append_left _ (List.mem_of_getElem? hr))).2 with ⟨e0, _⟩ | ⟨g', cap', cur, e1, _, e3, _⟩
  · rw [e] at e0; cases e0
  · rw [e] at e1
    injection e1 with e1 _ _
    injection e1 with e1
    injection e1 with e1 _
    subst e1
    simp [World.frozen?, e3]
set_option maxHeartbeats 4000000 in
set_option maxRecDepth 100000 in
theorem put_is {w0 : World} {R : Nat} {ts : List AR} {ns : List ByteArray} {rs : List VR} {st : St} {va vb nv sa sv so fv : Value} {bs : List AR} {JJ : World → Prop} (hb : RB ts ns st) (hn : NmC R ns nv sv fv bs JJ) (hvb : vb.oneCell' = true) (h : SH) (hk1 : ¬ h.k = 1) (hk2 : h.k = 2) (ht1 : toldX 8 h.x1 = true) (ht : toldX 8 h.x2 = true) (w : World) (v1 v2 v3 v4 u : Value) (hr : RS w0 w R ts ns rs st va vb nv sa sv so) (hJ : JJ w) (hv : HV w 0 h v1 v2 v3 v4) :
    Calls Tryz.prog 139 #[.pointer (some ⟨R, 0, Option.none⟩), sagg h v1 v2 v3 v4 u, fv] w (SimR w0 R ts ns va vb nv sa sv w (simple ts ns bs h st)) := by
  have HB := hid hb
  have HN := hid hn
  have HT := hid (And.intro ht1 ht)
  have HVB := hid hvb
  have hbA := alloc_below w (.cells (sarr h v1 v2 v3 v4 u) 119)
  have BA := hid hbA
  have R0 := hid (hr.later hbA)
  have J0 : Hid (JJ (w.alloc (.cells (sarr h v1 v2 v3 v4 u) 119))) := hn.kq _ _ hJ (KQ.of hbA)
  have SB := hid (boxS w h v1 v2 v3 v4 u 119)
  have E1 := hid (boxX1 SB.out)
  have V1 := hid (hv.e1.later hbA)
  have V2 := hid (hv.e2.later hbA)
  obtain ⟨kf, caps, hfv, _, _⟩ := (hn.lk st.V (by have := hb.v; omega)).is
  have o6 : fv.oneCell' = true := by rw [hfv]; rfl
  have hsim : Hid (∀ r1 r2, evS ts ns bs st h.x1 = r1 → evS ts ns bs st h.x2 = r2 → ((r1 = none ∨ r2 = none) → simple ts ns bs h st = (1, st)) ∧ ∀ p n, r1 = some p → r2 = some n → (inA ts st.A h.s p = none → simple ts ns bs h st = (1, st)) ∧ ∀ x, inA ts st.A h.s p = some x → simple ts ns bs h st = (0, { st with A := putA ts st.A h.s p n })) := by
    intro r1 r2 e1 e2
    refine ⟨fun hn => ?_, fun p n f1 f2 => ⟨fun hi => ?_, fun x hi => ?_⟩⟩
    · rw [simple, if_neg hk1, if_pos hk2, e1, e2]
      rcases hn with rfl | rfl
      · rfl
      · cases r1 <;> rfl
    · subst f1; subst f2
      rw [simple, if_neg hk1, if_pos hk2, e1, e2]
      simp [hi]
    · subst f1; subst f2
      rw [simple, if_neg hk1, if_pos hk2, e1, e2]
      simp [hi]
  clear hr hb hn ht ht1 hvb hbA hJ hv hfv hk1 hk2
  go_enter Tryz.func139, Tryz.ntmps139
  go_wp2_with (refine wpList_load_mid rfl 43 _ rfl w.heap.size 2 rfl _ _ E1.out Tryz.underlying43 rfl sizeExp4 ?_)
  refine (value_is HB.out HN.out HVB.out h.x1 HT.out.1 _ v1 R0.out J0.out V1.out).mono ?_
  rintro e w1 ⟨he, hb1⟩
  have R1 := hid (R0.out.later hb1)
  have B1 := hid (BA.out.trans (hb1.mono BA.out.size))
  have S1 := hid (rangeAt_later SB.out hb1)
  have J1 : Hid (JJ w1) := HN.out.kq _ _ J0.out (KQ.of hb1)
  have V21 := hid (V2.out.later hb1)
  have E2 := hid (boxX2 S1.out)
  obtain ⟨r1, hr1⟩ : ∃ r, evS ts ns bs st h.x1 = r := ⟨_, rfl⟩
  rw [hr1] at he
  have HR1 := hid hr1
  obtain rfl : e = .returned (.tuple #[.int .i64 (r1.getD 0), .bool r1.isSome]) := he
  clear hb1 hr1 R0 E1 V1 V2 BA SB J0
  go_wp2_with (refine wpList_load_mid rfl 43 _ rfl w.heap.size 6 rfl _ _ E2.out Tryz.underlying43 rfl sizeExp4 ?_)
  refine (value_is HB.out HN.out HVB.out h.x2 HT.out.2 _ v2 R1.out J1.out V21.out).mono ?_
  rintro e w2 ⟨he, hb2⟩
  have R2 := hid (R1.out.later hb2)
  have B2 := hid (B1.out.trans (hb2.mono B1.out.size))
  have S2 := hid (rangeAt_later S1.out hb2)
  obtain ⟨r2, hr2⟩ : ∃ r, evS ts ns bs st h.x2 = r := ⟨_, rfl⟩
  rw [hr2] at he
  have HS := hid (hsim.out r1 r2 HR1.out hr2)
  obtain rfl : e = .returned (.tuple #[.int .i64 (r2.getD 0), .bool r2.isSome]) := he
  clear hb2 hr2 R1 E2 V21 S1 J1 B1 hsim HR1
  cases r1 with
  | none =>
    have hs1 := hid (HS.out.1 (.inl rfl))
    go_wp2
    go_ret
    exact ⟨rs, _, (by rw [hs1.out]; rfl), (by rw [hs1.out]; exact R2.out), KQ.of B2.out, B2.out.size⟩
  | some p =>
    cases r2 with
    | none =>
      have hs1 := hid (HS.out.1 (.inr rfl))
      go_wp2
      go_ret
      exact ⟨rs, _, (by rw [hs1.out]; rfl), (by rw [hs1.out]; exact R2.out), KQ.of B2.out, B2.out.size⟩
    | some n =>
      have HS1 := hid (HS.out.2 p n rfl rfl)
      clear HS
      obtain ⟨a1, b1, hva⟩ := R2.out.p.shape
      obtain ⟨a3, b3, hsa⟩ := R2.out.sto.a.shape
      obtain ⟨a4, b4, hsv⟩ := R2.out.sto.v.shape
      obtain ⟨a5, b5, hso⟩ := R2.out.sto.o.shape
      subst hva; subst hsa; subst hsv; subst hso
      go_wp2_with fail
      have bd : Below w2.heap.size w2 w2.drew := (Below.refl _ w2).drew
      have Rd := hid (R2.out.later bd)
      have Bd := hid (B2.out.trans (bd.mono B2.out.size))
      have cS := rangeAt_later S2.out bd 1 _ rfl
      clear bd
      refine wp_region_held_drew (S := fun w' => w'.rangeAt R 0 [.slice a1 ts.length b1, vb] ∧ w'.rangeAt R 3 [.slice a3 st.A.length b3, .slice a4 st.V.length b4, .slice a5 st.O.length b5, .int .i64 0] ∧ w'.cell? ⟨w.heap.size, 1, Option.none⟩ = some (.string h.s)) (by kernel_rfl) ⟨Rd.out.ranges.1, Rd.out.ranges.2, cS⟩ (fun hHeld => ?_)
      refine wpAnyH_take (i := 0) (v := .pointer (some ⟨R, 0, Option.none⟩)) rfl (by kernel_rfl) (by kernel_rfl) (by kernel_rfl) (fun _ _ _ h => h) (Or.inl ⟨by rfl, ?pa0⟩) hHeld ?_
      case pa0 => intro w hSw; go_simp
      simp only [Act.put, zp]
      refine wpAnyH_take (i := 1) (v := .pointer (some ⟨R, 0, Option.none⟩)) rfl (by kernel_rfl) (by kernel_rfl) (by kernel_rfl) (fun _ _ _ h => h) (Or.inl ⟨by rfl, ?pa1⟩) hHeld ?_
      case pa1 => intro w hSw; go_simp
      simp only [Act.put, zp]
      refine wpAnyH_take (i := 2) (v := .pointer (some ⟨R, 0, Option.none⟩)) rfl (by kernel_rfl) (by kernel_rfl) (by kernel_rfl) (fun _ _ _ h => h) (Or.inl ⟨by rfl, ?pa2⟩) hHeld ?_
      case pa2 => intro w hSw; go_simp
      simp only [Act.put, zp]
      refine wpAnyH_take (i := 3) (v := .agg ([.slice a1 ts.length b1, vb] : List Value).toArray) rfl (by kernel_rfl) (by kernel_rfl) (by kernel_rfl) (fun _ _ _ h => h) (yieldsIf_load_mid (by rfl) 27 _ rfl (R) (0) rfl [.slice a1 ts.length b1, vb] _ (fun w h => h.1) Tryz.underlying27 rfl sizeProg2) hHeld ?_
      simp only [Act.put, zp]
      refine wpAnyH_take (i := 4) (v := .pointer (some ⟨R, 0, Option.none⟩)) rfl (by kernel_rfl) (by kernel_rfl) (by kernel_rfl) (fun _ _ _ h => h) (Or.inl ⟨by rfl, ?pa4⟩) hHeld ?_
      case pa4 => intro w hSw; go_simp
      simp only [Act.put, zp]
      refine wpAnyH_take (i := 5) (v := .pointer (some ⟨R, 0, Option.none⟩)) rfl (by kernel_rfl) (by kernel_rfl) (by kernel_rfl) (fun _ _ _ h => h) (Or.inl ⟨by rfl, ?pa5⟩) hHeld ?_
      case pa5 => intro w hSw; go_simp
      simp only [Act.put, zp]
      refine wpAnyH_take (i := 6) (v := .pointer (some ⟨R, 3, Option.none⟩)) rfl (by kernel_rfl) (by kernel_rfl) (by kernel_rfl) (fun _ _ _ h => h) (Or.inl ⟨by rfl, ?pa6⟩) hHeld ?_
      case pa6 => intro w hSw; go_simp
      simp only [Act.put, zp]
      refine wpAnyH_take (i := 7) (v := .agg ([.slice a3 st.A.length b3, .slice a4 st.V.length b4, .slice a5 st.O.length b5, .int .i64 0] : List Value).toArray) rfl (by kernel_rfl) (by kernel_rfl) (by kernel_rfl) (fun _ _ _ h => h) (yieldsIf_load_mid (by rfl) 33 _ rfl (R) (3) rfl [.slice a3 st.A.length b3, .slice a4 st.V.length b4, .slice a5 st.O.length b5, .int .i64 0] _ (fun w h => h.2.1) Tryz.underlying33 rfl sizeSto2) hHeld ?_
      simp only [Act.put, zp]
      refine wpAnyH_take (i := 8) (v := .pointer (some ⟨w.heap.size, 1, Option.none⟩)) rfl (by kernel_rfl) (by kernel_rfl) (by kernel_rfl) (fun _ _ _ h => h) (Or.inl ⟨by rfl, ?pa8⟩) hHeld ?_
      case pa8 => intro w hSw; go_simp
      simp only [Act.put, zp]
      refine wpAnyH_take (i := 9) (v := .string h.s) rfl (by kernel_rfl) (by kernel_rfl) (by kernel_rfl) (fun _ _ _ h => h) (Or.inl ⟨by rfl, ?pa9⟩) hHeld ?_
      case pa9 => intro w hSw; have h1 := hSw.2.2; go_simp
      simp only [Act.put, zp]
      refine wpAnyH_take (i := 10) (v := .int .i64 p) rfl (by kernel_rfl) (by kernel_rfl) (by kernel_rfl) (fun _ _ _ h => h) (Or.inl ⟨by rfl, ?pa10⟩) hHeld ?_
      case pa10 => intro w hSw; go_simp
      simp only [Act.put, zp]
      refine wpAnyH_ready (rs := [11]) (by kernel_rfl) (by simp) ?_
      refine AllReadyH.cons rfl (fun K hK => ?_) AllReadyH.nil
      rw [if_pos (by rfl)]
      simp only [zq]
      go_wp2_with fail
      refine (spotOf_is ts HB.out.t st.A (by have := HB.out.a; omega) (fun xs hx => Nat.le_trans (HB.out.b xs hx) (by omega)) h.s p _ vb _ _ _ 0 HVB.out rfl rfl w2.drew (Rd.out.p.later Rd.out.low) Rd.out.sto.a).mono ?_
      rintro e w3 ⟨hsp, hb3⟩
      have R3 := hid (Rd.out.later hb3)
      have B3 := hid (Bd.out.trans (hb3.mono Bd.out.size))
      rcases hsp with ⟨hno, rfl⟩ | ⟨x, ad, hx, rfl, hat⟩
      · have hs1 := hid (HS1.out.1 hno)
        go_wp2_with fail
        refine hK.out _ _ ⟨rangeAt_later hHeld.1 hb3, rangeAt_later hHeld.2.1 hb3, keeps hb3 hHeld.2.2⟩ (fun hHeld => ?_)
        clear hb3 hno
        refine wpAnyH_take (i := 12) (v := .pointer Option.none) rfl (by kernel_rfl) (by kernel_rfl) (by kernel_rfl) (fun _ _ _ h => h) (Or.inl ⟨by rfl, ?pb12⟩) hHeld ?_
        case pb12 => intro w hSw; go_simp
        simp only [Act.put, zp]
        refine wpAnyH_done (by kernel_rfl) ?_ _
        clear hHeld
        go_wp2
        go_ret
        exact ⟨rs, _, (by rw [hs1.out]; rfl), (by rw [hs1.out]; exact R3.out), KQ.of B3.out, B3.out.size⟩
      · have hs1 := hid (HS1.out.2 x hx)
        obtain ⟨k, m, go, oo, sl, sc, g, off, len, c, ek, em, esa, hcell, had, hcx⟩ := hat
        subst had
        injection esa with esa
        obtain ⟨r, hrk, hr1⟩ := rowAt Rd.out esa hcell (by have h1 := Rd.out.a; have h2 := congrArg List.length h1; simp at h2; have h3 := inA_lt ek hx; omega)
        have hrow := rowShape Rd.out hrk hr1
        subst em
        have HRK := hid (And.intro hrk (And.intro hr1 hrow))
        clear hrow
        have CX := keeps hb3 hcx
        have FX : w3.frozen? ⟨g, off + m, Option.none⟩ = false := rowFree R3.out hrk hr1 _
        go_wp2_with fail
        refine hK.out _ _ ⟨rangeAt_later hHeld.1 hb3, rangeAt_later hHeld.2.1 hb3, keeps hb3 hHeld.2.2⟩ (fun hHeld => ?_)
        have EK := hid ek
        clear hb3 hx hcell hcx ek hrk hr1 esa
        refine wpAnyH_take (i := 12) (v := .pointer (some ⟨g, off + m, Option.none⟩)) rfl (by kernel_rfl) (by kernel_rfl) (by kernel_rfl) (fun _ _ _ h => h) (Or.inl ⟨by rfl, ?pc12⟩) hHeld ?_
        case pc12 => intro w hSw; go_simp
        simp only [Act.put, zp]
        refine wpAnyH_done (by kernel_rfl) ?_ _
        clear hHeld
        go_wp2
        go_ret
        obtain ⟨hrk, hr1, rfl, hlen⟩ := HRK.out
        have T := R3.out.put (k := k) (m := m) (n := n) (g := g) (c := c) (xs := r.2) (by rw [hrk]; congr 1; exact Prod.ext (by rw [hr1, hlen]) rfl)
        have eA : putA ts st.A h.s (m : Int) n = st.A.modify k fun ys => ys.set m n := by rw [putA, EK.out]; rfl
        rw [Nat.zero_add]
        exact ⟨_, _, (by rw [hs1.out]; rfl), (by rw [hs1.out]; show RS w0 _ R ts ns _ { st with A := putA ts st.A h.s (m : Int) n } _ _ _ _ _ _; rw [eA]; exact T.1), (KQ.of B3.out).trans T.2, by rw [World.size_setCell]; exact B3.out.size⟩
set_option maxHeartbeats 1000000 in
theorem with2_is (fv : Value) (hfv : ∃ (kf : Nat) (caps : Array Value), fv = .func (.func kf) #[] caps) (sv : Value) (hsv : ∃ a n c, sv = .slice a n c) (w : World) :
    Calls Tryz.prog 51 #[fv, sv] w fun e w' => e = .returned (.func (.func 105) #[] #[.pointer (some ⟨w.heap.size + 1, 0, Option.none⟩), .pointer (some ⟨w.heap.size, 0, Option.none⟩)]) ∧ Below w.heap.size w w' ∧ w'.heap[w.heap.size]? = some (.cells #[fv] 73 (0, 0)) ∧ w'.heap[w.heap.size + 1]? = some (.cells #[sv] 40 (0, 0)) := by
  obtain ⟨kf, caps, rfl⟩ := hfv
  obtain ⟨a, n, c, rfl⟩ := hsv
  have hB : Hid (Below w.heap.size w ((w.alloc (.cells #[.func (.func kf) #[] caps] 73)).alloc (.cells #[.slice a n c] 40))) := (alloc_below w _).alloc (by simp) _
  have q0 : Hid (((w.alloc (.cells #[.func (.func kf) #[] caps] 73)).alloc (.cells #[.slice a n c] 40)).heap[w.heap.size]? = some (.cells #[.func (.func kf) #[] caps] 73 (0, 0))) := by
    show _ = _
    rw [Below.heap_alloc _ _ _ (by simp)]; exact heap_last _ _
  have q1 : Hid (((w.alloc (.cells #[.func (.func kf) #[] caps] 73)).alloc (.cells #[.slice a n c] 40)).heap[w.heap.size + 1]? = some (.cells #[.slice a n c] 40 (0, 0))) := by
    have h := heap_last (w.alloc (.cells #[.func (.func kf) #[] caps] 73)) (.cells #[.slice a n c] 40)
    rw [World.size_alloc] at h
    exact h
  go_enter Tryz.func51, Tryz.ntmps51
  go_wp2
  go_ret
  exact ⟨rfl, hB.out, q0.out, q1.out⟩
theorem NmC.base {R p q : Nat} {ns : List ByteArray} {nv sv : Value} (hns : ns.length ≤ 100000000) (hp : p ≠ R) (hq : q ≠ R) : NmC R ns nv sv (.func (.func 78) #[] #[.pointer (some ⟨p, 0, Option.none⟩), .pointer (some ⟨q, 0, Option.none⟩)]) [] (fun w => w.heap[p]? = some (.cells #[nv] 67 (0, 0)) ∧ w.heap[q]? = some (.cells #[sv] 31 (0, 0))) :=
  ⟨fun V hV => by
    have hl := lkVars ns hns V hV nv sv p q
    have e : withN [] (varN ns V) = varN ns V := by funext s; rfl
    rw [e]
    obtain ⟨kf, caps, e1, e2, e3⟩ := hl.is
    exact ⟨⟨kf, caps, e1, e2, fun w hw s => e3 w ⟨hw.2.1, hw.2.2, cell1 hw.1.1, cell1 hw.1.2⟩ s⟩, fun w w' hw hb => ⟨⟨(hb.block _ (lt_heap hw.1.1)).trans hw.1.1, (hb.block _ (lt_heap hw.1.2)).trans hw.1.2⟩, hw.2.1.later hb, hw.2.2.later hb⟩⟩,
   fun w w' hw hk => ⟨hk p _ _ hp (by decide) hw.1, hk q _ _ hq (by decide) hw.2⟩⟩
theorem NmC.next {R pb po gb : Nat} {ns : List ByteArray} {nv sv fv : Value} {bs : List AR} {JJ : World → Prop} (b : AR) (h : NmC R ns nv sv fv bs JJ) (h1 : pb ≠ R) (h2 : po ≠ R) (h3 : gb ≠ R) :
    NmC R ns nv sv (.func (.func 105) #[] #[.pointer (some ⟨pb, 0, Option.none⟩), .pointer (some ⟨po, 0, Option.none⟩)]) (bs ++ [b]) (fun w => JJ w ∧ w.heap[pb]? = some (.cells #[.slice (some ⟨gb, 0, Option.none⟩) 1 1] 40 (0, 0)) ∧ w.heap[po]? = some (.cells #[fv] 73 (0, 0)) ∧ w.heap[gb]? = some (.cells #[.string b.s, .int .i64 b.n] 85 (0, 0))) :=
  ⟨fun V hV => by
    have hl := h.lk V hV
    rw [withN_snoc]
    refine ⟨⟨105, #[.pointer (some ⟨pb, 0, Option.none⟩), .pointer (some ⟨po, 0, Option.none⟩)], rfl, enters_with, fun w hw s => ?_⟩, fun w w' hw hb => ⟨⟨h.kq w w' hw.1.1 (KQ.of hb), (hb.block _ (lt_heap hw.1.2.1)).trans hw.1.2.1, (hb.block _ (lt_heap hw.1.2.2.1)).trans hw.1.2.2.1, (hb.block _ (lt_heap hw.1.2.2.2)).trans hw.1.2.2.2⟩, hw.2.1.later hb, hw.2.2.later hb⟩⟩
    obtain ⟨⟨j0, j1, j2, j3⟩, j4, j5⟩ := hw
    refine with1_is [b] (by simp) _ _ _ _ hl s pb po w ⟨j0, j4, j5⟩ (cell1 j1) (cell1 j2) ?_
    obtain ⟨⟨q0, q1⟩, _⟩ := blk2 j3
    refine ⟨_, 1, rfl, .inr ⟨gb, 0, rfl, Nat.zero_le _, lt_heap j3, fun i t hi => ?_⟩⟩
    have hi0 : i = 0 := by have := (List.getElem?_eq_some_iff.1 hi).1; simp at this; exact this
    subst hi0
    simp at hi
    subst hi
    exact ⟨q0, q1⟩,
   fun w w' hw hk => ⟨h.kq w w' hw.1 hk, hk pb _ _ h1 (by decide) hw.2.1, hk po _ _ h2 (by decide) hw.2.2.1, hk gb _ _ h3 (by decide) hw.2.2.2⟩⟩
def wd (n : Int) : Prop := -2147483648 ≤ n ∧ n ≤ 2147483647
theorem wd_zero : wd 0 := ⟨by omega, by omega⟩
theorem wd_getD {V : List Int} (h : ∀ x ∈ V, wd x) (k : Nat) : wd (V[k]?.getD 0) := by
  cases e : V[k]? with
  | none => exact wd_zero
  | some x => exact h x (List.mem_of_getElem? e)
theorem varN_wd {ns : List ByteArray} {V : List Int} (h : ∀ x ∈ V, wd x) (s : ByteArray) : wd (varN ns V s) := by
  unfold varN
  split
  · exact wd_zero
  · exact wd_getD h _
theorem bindOf_mem {s : ByteArray} {n : Int} : ∀ {bs : List AR}, bindOf bs s = some n → ∃ b ∈ bs, b.n = n
  | [], h => by cases h
  | b :: bs, h => by
    rw [bindOf] at h
    split at h
    · injection h with h; exact ⟨b, by simp, h⟩
    · obtain ⟨c, hc, e⟩ := bindOf_mem h; exact ⟨c, by simp [hc], e⟩
theorem withN_wd {bs : List AR} {nm : ByteArray → Int} (h : ∀ b ∈ bs, wd b.n) (hn : ∀ s, wd (nm s)) (s : ByteArray) : wd (withN bs nm s) := by
  unfold withN
  cases e : bindOf bs.reverse s with
  | none => exact hn s
  | some n => obtain ⟨b, hb, e1⟩ := bindOf_mem e; rw [← e1]; exact h b (by simpa using hb)
theorem inA_wd {ts : List AR} {A : List (List Int)} {s : ByteArray} {p n : Int} (h : ∀ xs ∈ A, ∀ x ∈ xs, wd x) (e : inA ts A s p = some n) : wd n := by
  unfold inA at e
  split at e
  · cases e
  · split at e
    · cases e
    · cases e1 : A[(arrGo ts 0 s).toNat]? with
      | none => rw [e1] at e; cases e
      | some xs => rw [e1] at e; exact h xs (List.mem_of_getElem? e1) n (List.mem_of_getElem? e)
theorem opV_wd {k a b : Int} (ha : wd a) (hb : wd b) : wd (opV k a b) := by
  unfold opV
  split
  · exact wrap32_bd _
  · split
    · exact wrap32_bd _
    · split
      · exact wrap32_bd _
      · split
        · split
          · exact ha
          · exact hb
        · split
          · exact ha
          · exact hb
theorem evX_wd {ts : List AR} {A : List (List Int)} {nm : ByteArray → Int} (hA : ∀ xs ∈ A, ∀ x ∈ xs, wd x) (hn : ∀ s, wd (nm s)) : ∀ (d : Nat) (x : X) (n : Int), toldX d x = true → evX ts A nm d x = some n → wd n
  | 0, x, n, _, e => by cases e
  | d + 1, x, n, ht, e => by
    by_cases h1 : fnum x.h (elen x.l) = 1
    · rw [evX_num h1] at e
      injection e with e; subst e
      rw [toldX_num h1] at ht
      simp at ht
      exact ⟨by omega, by omega⟩
    · by_cases h2 : fnum x.h (elen x.l) = 2
      · rw [evX_var h2] at e
        injection e with e; subst e
        exact hn _
      · by_cases h3 : fnum x.h (elen x.l) = 3
        · rw [evX, if_neg h1, if_neg h2, if_pos h3] at e
          split at e
          · rename_i p q h l el
            cases e1 : evX ts A nm d ⟨h, l⟩ with
            | none => rw [e1] at e; cases e
            | some m => rw [e1] at e; exact inA_wd hA e
          · cases e
        · by_cases h4 : fnum x.h (elen x.l) = 4
          · rw [evX, if_neg h1, if_neg h2, if_neg h3, if_pos h4] at e
            split at e
            · rename_i p q h l p' q' h' l' el
              rw [toldX_pair (y := ⟨h, l⟩) (z := ⟨h', l'⟩) h4 el, Bool.and_eq_true] at ht
              cases e1 : evX ts A nm d ⟨h, l⟩ with
              | none => rw [e1] at e; cases e
              | some a =>
                cases e2 : evX ts A nm d ⟨h', l'⟩ with
                | none => rw [e1, e2] at e; cases e
                | some b =>
                  rw [e1, e2] at e
                  injection e with e; subst e
                  exact opV_wd (evX_wd hA hn d _ a ht.1 e1) (evX_wd hA hn d _ b ht.2 e2)
            · cases e
          · rw [evX, if_neg h1, if_neg h2, if_neg h3, if_neg h4] at e
            cases e
def rdyS (ns : List ByteArray) (vn : Nat) (h : SH) : Prop :=
  (h.k = 1 ∧ toldX 8 h.x2 = true ∧ ∃ k : Nat, idxGo ns 0 h.s = (k : Int) ∧ k < vn) ∨ (h.k = 2 ∧ toldX 8 h.x1 = true ∧ toldX 8 h.x2 = true) ∨ (h.k = 3 ∧ toldX 8 h.x3 = true ∧ toldX 8 h.x4 = true) ∨ (h.k = 4 ∧ toldX 8 h.x2 = true)
def rdyF (ns : List ByteArray) (vn : Nat) : SF → Prop
  | .nil => True
  | .node _ _ h l r => rdyS ns vn h ∧ rdyF ns vn l ∧ rdyF ns vn r
structure Fine (ts : List AR) (ns : List ByteArray) (vn : Nat) (bs : List AR) (s : St) : Prop where
  rb : RB ts ns s
  a : ∀ xs ∈ s.A, ∀ x ∈ xs, wd x
  v : ∀ x ∈ s.V, wd x
  b : ∀ b ∈ bs, wd b.n
  o : s.O.length + s.f ≤ 4000
  n : s.V.length = vn
  al : s.A.length = ts.length
theorem Like.al {s t : St} (l : Like s t) : t.A.length = s.A.length := by have := congrArg List.length l.a; simpa using this
theorem Fine.ev {ts : List AR} {ns : List ByteArray} {vn : Nat} {bs : List AR} {s : St} (h : Fine ts ns vn bs s) {x : X} {n : Int} (ht : toldX 8 x = true) (e : evS ts ns bs s x = some n) : wd n :=
  evX_wd h.a (fun t => withN_wd h.b (varN_wd h.v) t) 8 x n ht e
theorem RB.like {ts : List AR} {ns : List ByteArray} {s t : St} (h : RB ts ns s) (l : Like s t) : RB ts ns t := by
  have hl : t.A.length = s.A.length := by have := congrArg List.length l.a; simpa using this
  refine ⟨h.t, h.n, by rw [hl]; exact h.a, fun xs hx => ?_, by rw [l.v]; exact h.v, Nat.le_trans l.f h.f⟩
  have h1 : xs.length ∈ t.A.map List.length := List.mem_map_of_mem hx
  rw [l.a] at h1
  obtain ⟨ys, hy, e⟩ := List.mem_map.1 h1
  rw [← e]; exact h.b ys hy
theorem Fine.burn {ts : List AR} {ns : List ByteArray} {vn : Nat} {bs : List AR} {s : St} (h : Fine ts ns vn bs s) (h0 : ¬ s.f = 0) : Fine ts ns vn bs (burnt s) ∧ (burnt s).O.length + (burnt s).f < 4000 := by
  have := h.o
  refine ⟨⟨h.rb.like (Like.burn s), h.a, h.v, h.b, ?_, h.n, h.al⟩, ?_⟩
  · show s.O.length + (s.f - 1) ≤ 4000; omega
  · show s.O.length + (s.f - 1) < 4000; omega
theorem Fine.bind {ts : List AR} {ns : List ByteArray} {vn : Nat} {bs : List AR} {s : St} (h : Fine ts ns vn bs s) (c : AR) (hc : wd c.n) : Fine ts ns vn (bs ++ [c]) s :=
  ⟨h.rb, h.a, h.v, fun b hb => by rcases List.mem_append.1 hb with hb | hb; exact h.b b hb; simp at hb; subst hb; exact hc, h.o, h.n, h.al⟩
theorem Fine.unbind {ts : List AR} {ns : List ByteArray} {vn : Nat} {bs cs : List AR} {s t : St} (h : Fine ts ns vn bs s) (g : Fine ts ns vn cs t) : Fine ts ns vn bs t := ⟨g.rb, g.a, g.v, h.b, g.o, g.n, g.al⟩
theorem putA_wd {ts : List AR} {A : List (List Int)} {s : ByteArray} {p n : Int} (h : ∀ xs ∈ A, ∀ x ∈ xs, wd x) (hn : wd n) : ∀ xs ∈ putA ts A s p n, ∀ x ∈ xs, wd x := by
  intro xs hx x hxx
  unfold putA at hx
  obtain ⟨i, hi⟩ := List.mem_iff_getElem?.1 hx
  rw [List.getElem?_modify] at hi
  cases e : A[i]? with
  | none => rw [e] at hi; cases hi
  | some ys =>
    rw [e] at hi
    have hy := List.mem_of_getElem? e
    injection hi with hi
    simp only at hi
    split at hi
    · subst hi
      rcases List.mem_or_eq_of_mem_set hxx with h1 | h1
      · exact h ys hy x h1
      · subst h1; exact hn
    · subst hi; exact h _ hy x hxx
theorem simple_fine {ts : List AR} {ns : List ByteArray} {vn : Nat} {bs : List AR} {s : St} {h : SH} (hf : Fine ts ns vn bs s) (ho : s.O.length + s.f < 4000) (hk : rdyS ns vn h) (h3 : ¬ h.k = 3) : Fine ts ns vn bs (simple ts ns bs h s).2 := by
  have hl := simple_like ts ns bs h s
  have hrb := hf.rb.like hl
  have hn := And.intro (hl.v.trans hf.n) (hl.al.trans hf.al)
  have hx : toldX 8 h.x2 = true := by
    rcases hk with h | h | h | h
    · exact h.2.1
    · exact h.2.2
    · exact absurd h.1 h3
    · exact h.2
  revert hl hrb hn
  unfold simple
  split
  · split
    · intro _ _ _; exact hf
    · rename_i n e
      intro _ hrb hn
      exact ⟨hrb, hf.a, fun x hx1 => by rcases List.mem_or_eq_of_mem_set hx1 with h1 | h1; exact hf.v x h1; subst h1; exact hf.ev hx e, hf.b, hf.o, hn.1, hn.2⟩
  · split
    · split
      · rename_i p n e1 e
        split
        · intro _ hrb hn
          exact ⟨hrb, putA_wd hf.a (hf.ev hx e), hf.v, hf.b, hf.o, hn.1, hn.2⟩
        · intro _ _ _; exact hf
      · intro _ _ _; exact hf
    · split
      · intro _ _ _; exact hf
      · intro _ hrb hn
        refine ⟨hrb, hf.a, hf.v, hf.b, ?_, hn.1, hn.2⟩
        show (s.O ++ [_]).length + s.f ≤ 4000
        rw [List.length_append]; simp; omega
def rdyJ (ns : List ByteArray) (vn : Nat) : Job → Prop
  | .inl F => rdyF ns vn F
  | .inr (_, l, n, hi) => rdyF ns vn l ∧ -2147483648 ≤ n ∧ hi ≤ 2147483647
theorem then_fine {ts : List AR} {ns : List ByteArray} {vn : Nat} {bs : List AR} {r : Nat × St} {k : St → Nat × St} (h : Fine ts ns vn bs r.2) (hk : ∀ t, Fine ts ns vn bs t → Fine ts ns vn bs (k t).2) : Fine ts ns vn bs (andThen r k).2 := by
  unfold andThen
  split
  · exact hk _ h
  · exact h
theorem exec_fine {ts : List AR} {ns : List ByteArray} {vn : Nat} : ∀ (g : Nat) (bs : List AR) (j : Job) (s : St), rdyJ ns vn j → Fine ts ns vn bs s → Fine ts ns vn bs (exec ts ns g bs j s).2
  | 0, _, _, s, _, hf => hf
  | g + 1, bs, .inl .nil, s, _, hf => hf
  | g + 1, bs, .inl (.node p q h l r), s, hj, hf => by
    obtain ⟨h1, h2, h3⟩ : rdyS ns vn h ∧ rdyF ns vn l ∧ rdyF ns vn r := hj
    rw [exec]
    split
    · exact hf
    · rename_i h0
      obtain ⟨f1, f2⟩ := hf.burn h0
      refine then_fine ?_ fun t ht => exec_fine g bs (.inl r) t h3 ht
      unfold stepS
      split
      · rename_i hk
        have htl : toldX 8 h.x3 = true ∧ toldX 8 h.x4 = true := by
          rcases h1 with h | h | h | h
          · omega
          · omega
          · exact h.2
          · omega
        split
        · rename_i lo hi e1 e2
          exact exec_fine g bs (.inr (h.s, l, lo, hi)) _ ⟨h2, (f1.ev htl.1 e1).1, (f1.ev htl.2 e2).2⟩ f1
        · exact f1
      · rename_i hk
        exact simple_fine f1 f2 h1 hk
  | g + 1, bs, .inr (nm, l, n, hi), s, hj, hf => by
    obtain ⟨h2, h3, h4⟩ : rdyF ns vn l ∧ -2147483648 ≤ n ∧ hi ≤ 2147483647 := hj
    rw [exec]
    split
    · exact hf
    · split
      · exact hf
      · rename_i h5 h0
        obtain ⟨f1, f2⟩ := hf.burn h0
        have hw : wd n := ⟨h3, by omega⟩
        exact then_fine (hf.unbind (exec_fine g (bs ++ [⟨nm, n⟩]) (.inl l) (burnt s) h2 (f1.bind ⟨nm, n⟩ hw))) fun t ht => exec_fine g bs (.inr (nm, l, n + 1, hi)) t ⟨h2, by omega, h4⟩ ht
end Go.Proofs.YtfoghiminlbdaaaGreat
