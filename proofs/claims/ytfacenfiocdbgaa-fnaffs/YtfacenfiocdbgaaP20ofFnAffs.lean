/-
  Texts in one: AffSumI, AffAddS.
-/
import Derived.Test.YtfacenfiocdbgaaP18ofFnAffs
import Derived.Test.YtfacenfiocdbgaaAffOkS
import Derived.Test.YtfacenfiocdbgaaP14ofFnAffs
/-
  l8Sum of the specification.
-/
namespace Go.Proofs.Ytfacenfiocdbgaa
open Go.RowKit Go.Lib
set_option linter.unusedSimpArgs false
set_option linter.unusedVariables false

/-- Name by name, in machine numbers. -/
def one8 (a b : List AR) (n : Int) (s : ByteArray) : Int := IntKind.i64.wrap (coefA a s + IntKind.i64.wrap (n * coefA b s))
def sumsW8 (a b : List AR) (n : Int) (names : List ByteArray) : List AR := names.filterMap fun s => if one8 a b n s = 0 then none else some ⟨s, one8 a b n s⟩
theorem sumsW8_take (a b : List AR) (n : Int) {names : List ByteArray} {k : Nat} {s : ByteArray} (h : names[k]? = some s) :
    sumsW8 a b n (names.take (k + 1)) = sumsW8 a b n (names.take k) ++ (if one8 a b n s = 0 then [] else [⟨s, one8 a b n s⟩]) := by
  rw [List.take_add_one, h, sumsW8, List.filterMap_append]
  congr 1
  by_cases h0 : one8 a b n s = 0
  · simp [h0]
  · simp [h0]
theorem sumsW8_len (a b : List AR) (n : Int) (names : List ByteArray) : (sumsW8 a b n names).length ≤ names.length := List.length_filterMap_le _ _
def sumOk8 (ca cb n : Int) (la lb : List AR) (L : List AR) : Bool := affOk8 ca la && affOk8 cb lb && affOk8 (IntKind.i64.wrap (ca + IntKind.i64.wrap (n * cb))) L
set_option maxHeartbeats 4000000 in
set_option maxRecDepth 100000 in
theorem K8.below {n m S : Nat} {A B C : World} (hb : Below n A B) (hk : K8 m S B C) (h1 : n ≤ S) (h2 : n ≤ m) : Below n A C :=
  ⟨hk.os.trans hb.os, hk.tape.trans hb.tape, hk.output.trans hb.output, Nat.le_trans hb.size hk.size, fun k h => (hk.block k (by omega) (by omega)).trans (hb.block k h)⟩
set_option maxHeartbeats 4000000 in
set_option maxRecDepth 100000 in
theorem l8Sum_good (n ca cb : Int) (la lb : List AR) (hl : la.length ≤ 4000000) (hm : lb.length ≤ 4000000) (nl : NmB8 la) (nm : NmB8 lb) (va vb : Value) (w : World) (ha : AV w 0 va la) (hb : AV w 0 vb lb) (names : List ByteArray) (hns : puts8 (puts8 [] la) lb = names) (hok1 : affOk8 ca la = true) (hok2 : affOk8 cb lb = true) (ok : Bool) (hok : affOk8 (IntKind.i64.wrap (ca + IntKind.i64.wrap (n * cb))) (sumsW8 la lb n names) = ok) (hnb : NmB8 (sumsW8 la lb n names)) :
    Calls Try.prog 40 #[.agg #[.int .i64 ca, va], .agg #[.int .i64 cb, vb], .int .i64 n] w (OutSub8 w ok (IntKind.i64.wrap (ca + IntKind.i64.wrap (n * cb))) (sumsW8 la lb n names)) := by
  obtain ⟨i0, hi0, hz0, hz1, hz2⟩ := info_parts infoIT8
  obtain ⟨q0, q1, q2⟩ := heap3t w (.cells #[.int .i64 ca, va] 26) (.cells #[.int .i64 cb, vb] 26) (.cells #[.int .i64 0, .slice Option.none 0 0] 26)
  have hB3 : Below w.heap.size w (((w.alloc (.cells #[.int .i64 ca, va] 26)).alloc (.cells #[.int .i64 cb, vb] 26)).alloc (.cells #[.int .i64 0, .slice Option.none 0 0] 26)) := ((alloc_below w _).alloc (by simp) _).alloc (by simp; omega) _
  have HA := Lib.hid (And.intro ha (And.intro hb (And.intro nl nm)))
  obtain ⟨a1, c1, rfl⟩ := ha.shape
  obtain ⟨a2, c2, rfl⟩ := hb.shape
  have B0 := Lib.hid hB3
  have Q := Lib.hid (And.intro q0 (And.intro q1 q2))
  have HO := Lib.hid hok1
  have HO2 := Lib.hid hok2
  have HNS := Lib.hid hns
  have HNL : Hid (names.length ≤ 8000000) := show _ ≤ _ by
    have h1 := puts8_len lb (puts8 [] la); have h2 := puts8_len la []
    rw [← hns]; simp only [List.length_nil] at h2; omega
  have HNB := Lib.hid hnb
  obtain ⟨dd, hdd⟩ : ∃ dd, wrap64 (ca + wrap64 (n * cb)) = dd := ⟨_, rfl⟩
  have hdE : IntKind.i64.wrap (ca + IntKind.i64.wrap (n * cb)) = dd := by rw [← hdd, IntWalk.i64_left, IntWalk.i64_left]
  rw [hdE] at hok
  rw [hdE]
  clear hdE
  have HOK := Lib.hid hok
  clear ha hb nl nm hB3 q0 q1 q2 hok1 hok2 hns hok hnb
  go_enter Try.func40, Try.ntmps40
  obtain ⟨⟨x0, x1⟩, _⟩ := blk2 Q.out.1
  go_wp2_with fail
  refine (spec_AffOk ca la (by omega) HA.out.2.2.1 _ _ (HA.out.1.later B0.out) true HO.out).mono ?_
  rintro e w1 ⟨rfl, hb1⟩
  have Q1 := Lib.hid (And.intro ((hb1.block _ (Array.getElem?_eq_some_iff.1 Q.out.1).1).trans Q.out.1) (And.intro ((hb1.block _ (Array.getElem?_eq_some_iff.1 Q.out.2.1).1).trans Q.out.2.1) ((hb1.block _ (Array.getElem?_eq_some_iff.1 Q.out.2.2).1).trans Q.out.2.2)))
  have B1 := Lib.hid (B0.out.trans (hb1.mono B0.out.size))
  obtain ⟨⟨d0, d1⟩, _⟩ := blk2 Q1.out.2.1
  clear hb1 Q x0 x1
  go_wp2_with fail
  refine (spec_AffOk cb lb (by omega) HA.out.2.2.2 _ _ (HA.out.2.1.later B1.out) true HO2.out).mono ?_
  rintro e w2 ⟨rfl, hb1⟩
  have Q2 := Lib.hid (And.intro ((hb1.block _ (Array.getElem?_eq_some_iff.1 Q1.out.1).1).trans Q1.out.1) (And.intro ((hb1.block _ (Array.getElem?_eq_some_iff.1 Q1.out.2.1).1).trans Q1.out.2.1) ((hb1.block _ (Array.getElem?_eq_some_iff.1 Q1.out.2.2).1).trans Q1.out.2.2)))
  have B2 := Lib.hid (B1.out.trans (hb1.mono B1.out.size))
  clear hb1 d0 d1 Q1
  obtain ⟨⟨d0, d1⟩, _⟩ := blk2 Q2.out.1
  obtain ⟨⟨e0, e1⟩, _⟩ := blk2 Q2.out.2.1
  have hsz2 : w.heap.size + 1 + 1 < w2.heap.size := (Array.getElem?_eq_some_iff.1 Q2.out.2.2).1
  have ba := alloc_below w2 (.cells #[.int .i64 dd, .slice Option.none 0 0] 26)
  obtain ⟨⟨f0, f1⟩, _⟩ := blk2 ((ba.block _ (by omega)).trans Q2.out.1)
  obtain ⟨⟨g0, g1⟩, _⟩ := blk2 ((ba.block _ (by omega)).trans Q2.out.2.1)
  go_wp2_with fail
  have ba := alloc_below w2 (.cells #[.int .i64 dd, .slice Option.none 0 0] 26)
  have B3 := Lib.hid (B2.out.trans (ba.mono B2.out.size))
  refine (l8Names_is ca cb la lb hl hm _ _ _ (HA.out.1.later B3.out) (HA.out.2.1.later B3.out)).mono ?_
  rintro e w4 ⟨v4, rfl, hv4, hb4⟩
  rw [HNS.out] at hv4
  have T4 := Lib.hid ((hb4.block _ (by simp)).trans (heap_last w2 (.cells #[.int .i64 dd, .slice Option.none 0 0] 26)))
  have b24 := below_alloc hb4
  have B4 := Lib.hid (B2.out.trans (b24.mono B2.out.size))
  have Q4 := Lib.hid (And.intro ((b24.block _ (Array.getElem?_eq_some_iff.1 Q2.out.1).1).trans Q2.out.1) (And.intro ((b24.block _ (Array.getElem?_eq_some_iff.1 Q2.out.2.1).1).trans Q2.out.2.1) ((b24.block _ (Array.getElem?_eq_some_iff.1 Q2.out.2.2).1).trans Q2.out.2.2)))
  have HV4 := Lib.hid (hv4.same (Nat.le_of_eq (show w2.heap.size + 1 = (w2.alloc (.cells #[.int .i64 dd, .slice Option.none 0 0] 26)).heap.size by simp)) (Keeps.refl _ _) (Nat.le_refl _))
  have hs4 : w2.heap.size < w4.heap.size := (Array.getElem?_eq_some_iff.1 T4.out).1
  obtain ⟨na, nc, rfl⟩ := hv4.shape
  clear hv4 hb4 b24 ba d0 d1 e0 e1 f0 f1 g0 g1
  go_wp2
  go_loopw [10] (fun i wr => ∃ (k : Nat) (X : List AR) (v : Value), k ≤ names.length ∧ i = .int .i64 (k : Int) ∧ Hid (X = sumsW8 la lb n (names.take k)) ∧ Hid (wr.ownsRow w4.heap.size 59 2 v X.length (acells X)) ∧ Hid (wr.heap[w2.heap.size]? = some (.cells #[.int .i64 dd, v] 26)) ∧ K8 w4.heap.size w2.heap.size w4 wr) (fun i _ => names.length - (RowKit.intOf i).toNat)
  case atStart => exact ⟨0, [], .slice Option.none 0 0, Nat.zero_le _, rfl, rfl, World.ownsRow_nil _ _ _ _, T4.out, K8.of (Below.refl _ _)⟩
  case round =>
    obtain ⟨k, X, v, hk, rfl, HX, HOw, HT, hbr⟩ := hrel
    obtain ⟨oa, oc, rfl⟩ := ownShape HOw.out
    have QR := Lib.hid (And.intro ((hbr.block _ (by omega) (by omega)).trans Q4.out.1) (And.intro ((hbr.block _ (by omega) (by omega)).trans Q4.out.2.1) ((hbr.block _ (by omega) (by omega)).trans Q4.out.2.2)))
    have KW : Hid (Below w.heap.size w wr) := show Below _ _ _ from K8.below B4.out hbr (by omega) (by omega)
    have KR := Lib.hid hbr
    have hq : w4.heap.size ≤ wr.heap.size := hbr.size
    have HXN : Hid (X.length ≤ 8000000) := show _ ≤ _ by
      have h1 := sumsW8_len la lb n (names.take k); rw [← HX.out] at h1; simp only [List.length_take] at h1; have := HNL.out; omega
    have hnl : names.length ≤ 8000000 := HNL.out
    clear hbr
    by_cases hlt : k < names.length
    · have hltI : (k : Int) < (names.length : Int) := by omega
      obtain ⟨s, hs⟩ : ∃ s, names[k]? = some s := ⟨names[k], List.getElem?_eq_getElem hlt⟩
      obtain ⟨ao, cap, e, hr⟩ := HV4.out
      injection e with e1 e2 e3
      subst e1; subst e3
      rcases hr with hr | ⟨g, off, rfl, hg0, gl, hc⟩
      · subst hr; simp at hlt
      have hgS : g ≠ w2.heap.size := by omega
      have CR := Lib.hid ((World.cell?_of_block (a := ⟨g, off + k, Option.none⟩) (KR.out.block g gl hgS)).trans (hc k s hs))
      obtain ⟨nn, hnn⟩ : ∃ nn, wrap64 (coefA la s + wrap64 (n * coefA lb s)) = nn := ⟨_, rfl⟩
      have HN1 : Hid (one8 la lb n s = nn) := show _ = _ by rw [← hnn, one8, IntWalk.i64_left, IntWalk.i64_left]
      have HX2 : Hid (X ++ (if nn = 0 then [] else [(⟨s, nn⟩ : AR)]) = sumsW8 la lb n (names.take (k + 1))) := show _ = _ by rw [HX.out, sumsW8_take la lb n hs, HN1.out]
      clear hc hs
      go_wp2_with fail
      have bd : Below wr.heap.size wr wr.drew := (Below.refl _ wr).drew
      refine wp_region_held_drew (S := Below wr.heap.size wr) (by kernel_rfl) bd (fun hHeld => ?_)
      refine wpAnyH_take (i := 0) (v := .agg #[.int .i64 ca, .slice a1 la.length c1]) rfl (by kernel_rfl) (by kernel_rfl) (by kernel_rfl) (fun _ _ _ h => h) (Or.inl ⟨by rfl, ?ya0⟩) hHeld ?_
      case ya0 => intro w hSw; obtain ⟨⟨j0, j1⟩, _⟩ := blk2 ((hSw.block _ (by omega)).trans QR.out.1); go_simp
      simp only [Act.put, List.getElem_toArray, List.getElem_cons_succ, List.getElem_cons_zero, List.setIfInBounds_toArray, List.set_cons_zero, List.set_cons_succ]
      refine wpAnyH_take (i := 1) (v := .slice (some ⟨g, off, Option.none⟩) names.length nc) rfl (by kernel_rfl) (by kernel_rfl) (by kernel_rfl) (fun _ _ _ h => h) (Or.inl ⟨by rfl, ?ya1⟩) hHeld ?_
      case ya1 => intro w hSw; go_simp
      simp only [Act.put, List.getElem_toArray, List.getElem_cons_succ, List.getElem_cons_zero, List.setIfInBounds_toArray, List.set_cons_zero, List.set_cons_succ]
      refine wpAnyH_take (i := 2) (v := .int .i64 (k : Int)) rfl (by kernel_rfl) (by kernel_rfl) (by kernel_rfl) (fun _ _ _ h => h) (Or.inl ⟨by rfl, ?ya2⟩) hHeld ?_
      case ya2 => intro w hSw; go_simp
      simp only [Act.put, List.getElem_toArray, List.getElem_cons_succ, List.getElem_cons_zero, List.setIfInBounds_toArray, List.set_cons_zero, List.set_cons_succ]
      refine wpAnyH_take (i := 3) (v := .pointer (some ⟨g, off + k, Option.none⟩)) rfl (by kernel_rfl) (by kernel_rfl) (by kernel_rfl) (fun _ _ _ h => h) (Or.inl ⟨by rfl, ?ya3⟩) hHeld ?_
      case ya3 => intro w hSw; go_simp
      simp only [Act.put, List.getElem_toArray, List.getElem_cons_succ, List.getElem_cons_zero, List.setIfInBounds_toArray, List.set_cons_zero, List.set_cons_succ]
      refine wpAnyH_take (i := 4) (v := .string s) rfl (by kernel_rfl) (by kernel_rfl) (by kernel_rfl) (fun _ _ _ h => h) (Or.inl ⟨by rfl, ?ya4⟩) hHeld ?_
      case ya4 => intro w hSw; have q := (World.cell?_of_block (a := ⟨g, off + k, Option.none⟩) (hSw.block g (by omega))).trans CR.out; go_simp
      simp only [Act.put, List.getElem_toArray, List.getElem_cons_succ, List.getElem_cons_zero, List.setIfInBounds_toArray, List.set_cons_zero, List.set_cons_succ]
      refine wpAnyH_take (i := 6) (v := .int .i64 n) rfl (by kernel_rfl) (by kernel_rfl) (by kernel_rfl) (fun _ _ _ h => h) (Or.inl ⟨by rfl, ?ya6⟩) hHeld ?_
      case ya6 => intro w hSw; go_simp
      simp only [Act.put, List.getElem_toArray, List.getElem_cons_succ, List.getElem_cons_zero, List.setIfInBounds_toArray, List.set_cons_zero, List.set_cons_succ]
      refine wpAnyH_take (i := 7) (v := .agg #[.int .i64 cb, .slice a2 lb.length c2]) rfl (by kernel_rfl) (by kernel_rfl) (by kernel_rfl) (fun _ _ _ h => h) (Or.inl ⟨by rfl, ?ya7⟩) hHeld ?_
      case ya7 => intro w hSw; obtain ⟨⟨j0, j1⟩, _⟩ := blk2 ((hSw.block _ (by omega)).trans QR.out.2.1); go_simp
      simp only [Act.put, List.getElem_toArray, List.getElem_cons_succ, List.getElem_cons_zero, List.setIfInBounds_toArray, List.set_cons_zero, List.set_cons_succ]
      refine wpAnyH_take (i := 8) (v := .slice (some ⟨g, off, Option.none⟩) names.length nc) rfl (by kernel_rfl) (by kernel_rfl) (by kernel_rfl) (fun _ _ _ h => h) (Or.inl ⟨by rfl, ?ya8⟩) hHeld ?_
      case ya8 => intro w hSw; go_simp
      simp only [Act.put, List.getElem_toArray, List.getElem_cons_succ, List.getElem_cons_zero, List.setIfInBounds_toArray, List.set_cons_zero, List.set_cons_succ]
      refine wpAnyH_take (i := 9) (v := .int .i64 (k : Int)) rfl (by kernel_rfl) (by kernel_rfl) (by kernel_rfl) (fun _ _ _ h => h) (Or.inl ⟨by rfl, ?ya9⟩) hHeld ?_
      case ya9 => intro w hSw; go_simp
      simp only [Act.put, List.getElem_toArray, List.getElem_cons_succ, List.getElem_cons_zero, List.setIfInBounds_toArray, List.set_cons_zero, List.set_cons_succ]
      refine wpAnyH_take (i := 10) (v := .pointer (some ⟨g, off + k, Option.none⟩)) rfl (by kernel_rfl) (by kernel_rfl) (by kernel_rfl) (fun _ _ _ h => h) (Or.inl ⟨by rfl, ?ya10⟩) hHeld ?_
      case ya10 => intro w hSw; go_simp
      simp only [Act.put, List.getElem_toArray, List.getElem_cons_succ, List.getElem_cons_zero, List.setIfInBounds_toArray, List.set_cons_zero, List.set_cons_succ]
      refine wpAnyH_take (i := 11) (v := .string s) rfl (by kernel_rfl) (by kernel_rfl) (by kernel_rfl) (fun _ _ _ h => h) (Or.inl ⟨by rfl, ?ya11⟩) hHeld ?_
      case ya11 => intro w hSw; have q := (World.cell?_of_block (a := ⟨g, off + k, Option.none⟩) (hSw.block g (by omega))).trans CR.out; go_simp
      simp only [Act.put, List.getElem_toArray, List.getElem_cons_succ, List.getElem_cons_zero, List.setIfInBounds_toArray, List.set_cons_zero, List.set_cons_succ]
      refine wpAnyH_ready (rs := [5]) (by kernel_rfl) (by simp) ?_
      refine AllReadyH.cons rfl (fun K hK => ?_) AllReadyH.nil
      rw [if_pos (by rfl)]
      simp only [List.getElem_toArray, List.getElem_cons_succ, List.getElem_cons_zero]
      go_wp2_with fail
      refine (spec_CoefOf ca la (by omega) s _ _ (HA.out.1.later (KW.out.trans (hHeld.mono KW.out.size)))).mono ?_
      rintro e w5 ⟨rfl, rfl⟩
      go_wp2_with fail
      refine hK.out _ _ (hHeld.trans ((alloc_below _ _).mono hHeld.size)) (fun hHeld => ?_)
      refine wpAnyH_ready (rs := [12]) (by kernel_rfl) (by simp) ?_
      refine AllReadyH.cons rfl (fun K hK => ?_) AllReadyH.nil
      rw [if_pos (by rfl)]
      simp only [List.getElem_toArray, List.getElem_cons_succ, List.getElem_cons_zero]
      go_wp2_with fail
      refine (spec_CoefOf cb lb (by omega) s _ _ (HA.out.2.1.later (KW.out.trans (hHeld.mono KW.out.size)))).mono ?_
      rintro e w5 ⟨rfl, rfl⟩
      go_wp2_with fail
      refine hK.out _ _ (hHeld.trans ((alloc_below _ _).mono hHeld.size)) (fun hHeld => ?_)
      refine wpAnyH_take (i := 13) (v := .int .i64 (wrap64 (n * coefA lb s))) rfl (by kernel_rfl) (by kernel_rfl) (by kernel_rfl) (fun _ _ _ h => h) (Or.inl ⟨by rfl, ?yb13⟩) hHeld ?_
      case yb13 => intro w hSw; go_simp; exact IntWalk.i64_left _
      simp only [Act.put, List.getElem_toArray, List.getElem_cons_succ, List.getElem_cons_zero, List.setIfInBounds_toArray, List.set_cons_zero, List.set_cons_succ]
      refine wpAnyH_take (i := 14) (v := .int .i64 nn) rfl (by kernel_rfl) (by kernel_rfl) (by kernel_rfl) (fun _ _ _ h => h) (Or.inl ⟨by rfl, ?yb14⟩) hHeld ?_
      case yb14 => intro w hSw; go_simp; rw [IntWalk.i64_left]; exact hnn
      simp only [Act.put, List.getElem_toArray, List.getElem_cons_succ, List.getElem_cons_zero, List.setIfInBounds_toArray, List.set_cons_zero, List.set_cons_succ]
      refine wpAnyH_take (i := 15) (v := .int .i64 nn) rfl (by kernel_rfl) (by kernel_rfl) (by kernel_rfl) (fun _ _ _ h => h) (Or.inl ⟨by rfl, ?yb15⟩) hHeld ?_
      case yb15 => intro w hSw; go_simp
      simp only [Act.put, List.getElem_toArray, List.getElem_cons_succ, List.getElem_cons_zero, List.setIfInBounds_toArray, List.set_cons_zero, List.set_cons_succ]
      refine wpAnyH_done (by kernel_rfl) ?_ _
      obtain ⟨wz, Wz⟩ : ∃ wz, Hid (wz = ((wr.alloc (.cells #[.int .i64 ca, .slice a1 la.length c1] 26)).alloc (.cells #[.int .i64 cb, .slice a2 lb.length c2] 26)).drew) := ⟨_, rfl⟩
      rw [← Wz.out] at hHeld ⊢
      have HH := Lib.hid hHeld
      have TZ := Lib.hid ((HH.out.block _ (by omega)).trans HT.out)
      have OZ := Lib.hid (own_below8 HOw.out HH.out)
      have KZ := Lib.hid (KR.out.trans (K8.of (HH.out.mono hq)))
      have hqz := HH.out.size
      have CZ0 := (World.cell?_of_block (a := ⟨g, off + k, Option.none⟩) (HH.out.block g (by omega))).trans CR.out
      clear hHeld bd Wz hnn
      by_cases hz : nn = 0
      · subst hz
        have HX4 : Hid (X = sumsW8 la lb n (names.take (k + 1))) := show _ = _ by rw [← HX2.out, if_pos rfl, List.append_nil]
        clear CZ0
        go_wp2
        go_roundw
        case rel => exact ⟨k + 1, X, .slice oa X.length oc, by omega, by go_num, HX4.out, OZ.out, TZ.out, KZ.out⟩
        case measure => simp [RowKit.intOf]; omega
      · have hzb : (nn == 0) = false := by simp [hz]
        go_wp2_with fail
        refine wp_region_held_drew (S := fun w' => w'.cell? ⟨g, off + k, Option.none⟩ = some (.string s)) (by kernel_rfl) CZ0 (fun hHeld => ?_)
        obtain ⟨w5, W5⟩ : ∃ w5, Hid (w5 = wz.drew) := ⟨_, rfl⟩
        have hh : w5.heap = wz.heap := by rw [W5.out]; rfl
        have b5 : Below wr.heap.size wr w5 := by rw [W5.out]; exact HH.out.drew
        rw [← W5.out] at hHeld ⊢
        have T5 := Lib.hid ((b5.block _ (by omega)).trans HT.out)
        have own5 := Lib.hid (own_below8 HOw.out b5)
        have K5 := Lib.hid (KR.out.trans (K8.of (b5.mono hq)))
        have HV := Lib.hid HOw.out.lt
        have hq5 : w4.heap.size ≤ w5.heap.size := Nat.le_trans hq b5.size
        have CZ := Lib.hid hHeld
        clear hh CZ0 b5 W5
        refine wpAnyH_take (i := 0) (v := .pointer (some ⟨w2.heap.size, 1, Option.none⟩)) rfl (by kernel_rfl) (by kernel_rfl) (by kernel_rfl) (fun _ _ _ h => h) (Or.inl ⟨by rfl, ?ypa0⟩) hHeld ?_
        case ypa0 => intro w hSw; go_simp
        simp only [Act.put, List.getElem_toArray, List.getElem_cons_succ, List.getElem_cons_zero, List.setIfInBounds_toArray, List.set_cons_zero, List.set_cons_succ]
        refine wpAnyH_take (i := 2) (v := .slice (some ⟨g, off, Option.none⟩) names.length nc) rfl (by kernel_rfl) (by kernel_rfl) (by kernel_rfl) (fun _ _ _ h => h) (Or.inl ⟨by rfl, ?ypa2⟩) hHeld ?_
        case ypa2 => intro w hSw; go_simp
        simp only [Act.put, List.getElem_toArray, List.getElem_cons_succ, List.getElem_cons_zero, List.setIfInBounds_toArray, List.set_cons_zero, List.set_cons_succ]
        refine wpAnyH_take (i := 3) (v := .int .i64 (k : Int)) rfl (by kernel_rfl) (by kernel_rfl) (by kernel_rfl) (fun _ _ _ h => h) (Or.inl ⟨by rfl, ?ypa3⟩) hHeld ?_
        case ypa3 => intro w hSw; go_simp
        simp only [Act.put, List.getElem_toArray, List.getElem_cons_succ, List.getElem_cons_zero, List.setIfInBounds_toArray, List.set_cons_zero, List.set_cons_succ]
        refine wpAnyH_take (i := 4) (v := .pointer (some ⟨g, off + k, Option.none⟩)) rfl (by kernel_rfl) (by kernel_rfl) (by kernel_rfl) (fun _ _ _ h => h) (Or.inl ⟨by rfl, ?ypa4⟩) hHeld ?_
        case ypa4 => intro w hSw; go_simp
        simp only [Act.put, List.getElem_toArray, List.getElem_cons_succ, List.getElem_cons_zero, List.setIfInBounds_toArray, List.set_cons_zero, List.set_cons_succ]
        refine wpAnyH_take (i := 5) (v := .string s) rfl (by kernel_rfl) (by kernel_rfl) (by kernel_rfl) (fun _ _ _ h => h) (Or.inl ⟨by rfl, ?ypa5⟩) hHeld ?_
        case ypa5 => intro w hSw; have q : _ = _ := hSw; go_simp
        simp only [Act.put, List.getElem_toArray, List.getElem_cons_succ, List.getElem_cons_zero, List.setIfInBounds_toArray, List.set_cons_zero, List.set_cons_succ]
        refine wpAnyH_take (i := 6) (v := .int .i64 nn) rfl (by kernel_rfl) (by kernel_rfl) (by kernel_rfl) (fun _ _ _ h => h) (Or.inl ⟨by rfl, ?ypa6⟩) hHeld ?_
        case ypa6 => intro w hSw; go_simp
        simp only [Act.put, List.getElem_toArray, List.getElem_cons_succ, List.getElem_cons_zero, List.setIfInBounds_toArray, List.set_cons_zero, List.set_cons_succ]
        refine wpAnyH_take (i := 7) (v := .agg #[.string s, .int .i64 nn]) rfl (by kernel_rfl) (by kernel_rfl) (by kernel_rfl) (fun _ _ _ h => h) (Or.inl ⟨by rfl, ?ypa7⟩) hHeld ?_
        case ypa7 => intro w hSw; go_simp
        simp only [Act.put, List.getElem_toArray, List.getElem_cons_succ, List.getElem_cons_zero, List.setIfInBounds_toArray, List.set_cons_zero, List.set_cons_succ]
        refine wpAnyH_ready (rs := [1, 8]) (by kernel_rfl) (by simp) ?_
        refine AllReadyH.cons rfl (fun K hK => ?_) (AllReadyH.cons rfl (fun K hK => ?_) AllReadyH.nil)
        · rw [if_pos (by rfl)]
          simp only [List.getElem_toArray, List.getElem_cons_succ, List.getElem_cons_zero]
          obtain ⟨⟨j0, j1⟩, _⟩ := blk2 (T5.out)
          go_wp2_with fail
          clear j0 j1
          refine hK.out _ _ hHeld (fun hHeld => ?_)
          refine wpAnyH_ready (rs := [8]) (by kernel_rfl) (by simp) ?_
          refine AllReadyH.cons rfl (fun K hK => ?_) AllReadyH.nil
          rw [if_pos (by rfl)]
          simp only [List.getElem_toArray, List.getElem_cons_succ, List.getElem_cons_zero]
          go_wp2_with fail
          refine hK.out _ _ ((World.cell?_of_block (a := ⟨g, off + k, Option.none⟩) (Below.heap_alloc _ _ _ (by show g < w5.heap.size; omega))).trans hHeld) (fun hHeld => ?_)
          refine wpAnyH_ready (rs := [9]) (by kernel_rfl) (by simp) ?_
          refine AllReadyH.cons rfl (fun K hK => ?_) AllReadyH.nil
          rw [if_pos (by rfl)]
          simp only [List.getElem_toArray, List.getElem_cons_succ, List.getElem_cons_zero]
          refine wp_append_own _ _ _ 24 (by rfl) w4.heap.size 59 i0 _ 2 24 Try.underlying24 hi0 hz0 hz1 hz2 rfl (by decide) _ _ _ (by rfl) (own5.out.alloc _) ⟨w5.heap.size, 0, Option.none⟩ 1 1 [.string s, .int .i64 nn] (by rfl) (by rfl) (new2T _ _ _ _) (two8 _ _) (by have := HXN.out; unfold maxLen; omega) (by have := HXN.out; omega) (by simp; omega) ?_
          intro v' w8 hown8 hgrow8 _
          obtain ⟨a8, c8, rfl⟩ := ownShape hown8
          have T8 := Lib.hid (keep8 (Below.refl _ w5) T5.out hgrow8 HV.out hs4)
          have F8 : Below w4.heap.size w5 w8 := ((Below.refl _ w5).alloc hq5 _).grown hgrow8 (by simp; omega) (fun k hk => (HV.out k hk).1)
          have K9 := Lib.hid ((K5.out.trans (K8.of F8)).trans (K8.set w8 1 (.slice a8 (X.length + 1) c8)))
          refine hK.out _ _ ((F8.cell (p := ⟨g, off + k, Option.none⟩) gl).trans CZ.out) (fun hHeld => ?_)
          simp only [Act.put, List.getElem_toArray, List.getElem_cons_succ, List.getElem_cons_zero, List.setIfInBounds_toArray, List.set_cons_zero, List.set_cons_succ]
          refine wpAnyH_take (i := 10) (v := .pointer (some ⟨w2.heap.size, 1, Option.none⟩)) rfl (by kernel_rfl) (by kernel_rfl) (by kernel_rfl) (fun _ _ _ h => h) (Or.inl ⟨by rfl, ?yqa10⟩) hHeld ?_
          case yqa10 => intro w hSw; go_simp
          simp only [Act.put, List.getElem_toArray, List.getElem_cons_succ, List.getElem_cons_zero, List.setIfInBounds_toArray, List.set_cons_zero, List.set_cons_succ]
          refine wpAnyH_ready (rs := [11]) (by kernel_rfl) (by simp) ?_
          refine AllReadyH.cons rfl (fun K hK => ?_) AllReadyH.nil
          rw [if_pos (by rfl)]
          simp only [List.getElem_toArray, List.getElem_cons_succ, List.getElem_cons_zero]
          obtain ⟨⟨e0, e1⟩, k0, k1⟩ := blk2 T8.out
          go_wp2_with fail
          refine hK.out _ _ ((World.cell?_of_block (a := ⟨g, off + k, Option.none⟩) (Below.heap_setCell _ _ _ _ hgS)).trans hHeld) (fun hHeld => ?_)
          refine wpAnyH_done (by kernel_rfl) ?_ _
          have O9 : Hid ((w8.setCell ⟨w2.heap.size, 1, Option.none⟩ (.slice a8 (X.length + 1) c8)).ownsRow w4.heap.size 59 2 (.slice a8 (X.length + 1) c8) (X ++ [(⟨s, nn⟩ : AR)]).length (acells (X ++ [(⟨s, nn⟩ : AR)]))) := by
            rw [List.length_append, acells_snoc]
            exact own_later8 hown8 (fun g _ hg _ => Below.heap_setCell _ _ _ _ (by show g ≠ w2.heap.size; omega))
          have T9 := Lib.hid (Go.heap_setCell_same _ _ 1 _ _ (.slice a8 (X.length + 1) c8) T8.out)
          have HX3 : Hid (X ++ [(⟨s, nn⟩ : AR)] = sumsW8 la lb n (names.take (k + 1))) := show _ = _ by rw [← HX2.out, if_neg hz]
          clear hHeld hown8 hgrow8 e0 e1 k0 k1 F8
          go_wp2
          go_roundw
          case rel => exact ⟨k + 1, X ++ [(⟨s, nn⟩ : AR)], (.slice a8 (X.length + 1) c8), by omega, by go_num, HX3.out, O9.out, T9.out, K9.out⟩
          case measure => simp [RowKit.intOf]; omega
        · rw [if_pos (by rfl)]
          simp only [List.getElem_toArray, List.getElem_cons_succ, List.getElem_cons_zero]
          go_wp2_with fail
          refine hK.out _ _ ((World.cell?_of_block (a := ⟨g, off + k, Option.none⟩) (Below.heap_alloc _ _ _ (by show g < w5.heap.size; omega))).trans hHeld) (fun hHeld => ?_)
          refine wpAnyH_ready (rs := [1]) (by kernel_rfl) (by simp) ?_
          refine AllReadyH.cons rfl (fun K hK => ?_) AllReadyH.nil
          rw [if_pos (by rfl)]
          simp only [List.getElem_toArray, List.getElem_cons_succ, List.getElem_cons_zero]
          obtain ⟨⟨j0, j1⟩, _⟩ := blk2 ((show (w5.alloc (.cells #[.string s, .int .i64 nn] 59)).heap[w2.heap.size]? = _ from (Below.heap_alloc _ _ _ (by omega)).trans T5.out))
          go_wp2_with fail
          clear j0 j1
          refine hK.out _ _ hHeld (fun hHeld => ?_)
          refine wpAnyH_ready (rs := [9]) (by kernel_rfl) (by simp) ?_
          refine AllReadyH.cons rfl (fun K hK => ?_) AllReadyH.nil
          rw [if_pos (by rfl)]
          simp only [List.getElem_toArray, List.getElem_cons_succ, List.getElem_cons_zero]
          refine wp_append_own _ _ _ 24 (by rfl) w4.heap.size 59 i0 _ 2 24 Try.underlying24 hi0 hz0 hz1 hz2 rfl (by decide) _ _ _ (by rfl) (own5.out.alloc _) ⟨w5.heap.size, 0, Option.none⟩ 1 1 [.string s, .int .i64 nn] (by rfl) (by rfl) (new2T _ _ _ _) (two8 _ _) (by have := HXN.out; unfold maxLen; omega) (by have := HXN.out; omega) (by simp; omega) ?_
          intro v' w8 hown8 hgrow8 _
          obtain ⟨a8, c8, rfl⟩ := ownShape hown8
          have T8 := Lib.hid (keep8 (Below.refl _ w5) T5.out hgrow8 HV.out hs4)
          have F8 : Below w4.heap.size w5 w8 := ((Below.refl _ w5).alloc hq5 _).grown hgrow8 (by simp; omega) (fun k hk => (HV.out k hk).1)
          have K9 := Lib.hid ((K5.out.trans (K8.of F8)).trans (K8.set w8 1 (.slice a8 (X.length + 1) c8)))
          refine hK.out _ _ ((F8.cell (p := ⟨g, off + k, Option.none⟩) gl).trans CZ.out) (fun hHeld => ?_)
          simp only [Act.put, List.getElem_toArray, List.getElem_cons_succ, List.getElem_cons_zero, List.setIfInBounds_toArray, List.set_cons_zero, List.set_cons_succ]
          refine wpAnyH_take (i := 10) (v := .pointer (some ⟨w2.heap.size, 1, Option.none⟩)) rfl (by kernel_rfl) (by kernel_rfl) (by kernel_rfl) (fun _ _ _ h => h) (Or.inl ⟨by rfl, ?yra10⟩) hHeld ?_
          case yra10 => intro w hSw; go_simp
          simp only [Act.put, List.getElem_toArray, List.getElem_cons_succ, List.getElem_cons_zero, List.setIfInBounds_toArray, List.set_cons_zero, List.set_cons_succ]
          refine wpAnyH_ready (rs := [11]) (by kernel_rfl) (by simp) ?_
          refine AllReadyH.cons rfl (fun K hK => ?_) AllReadyH.nil
          rw [if_pos (by rfl)]
          simp only [List.getElem_toArray, List.getElem_cons_succ, List.getElem_cons_zero]
          obtain ⟨⟨e0, e1⟩, k0, k1⟩ := blk2 T8.out
          go_wp2_with fail
          refine hK.out _ _ ((World.cell?_of_block (a := ⟨g, off + k, Option.none⟩) (Below.heap_setCell _ _ _ _ hgS)).trans hHeld) (fun hHeld => ?_)
          refine wpAnyH_done (by kernel_rfl) ?_ _
          have O9 : Hid ((w8.setCell ⟨w2.heap.size, 1, Option.none⟩ (.slice a8 (X.length + 1) c8)).ownsRow w4.heap.size 59 2 (.slice a8 (X.length + 1) c8) (X ++ [(⟨s, nn⟩ : AR)]).length (acells (X ++ [(⟨s, nn⟩ : AR)]))) := by
            rw [List.length_append, acells_snoc]
            exact own_later8 hown8 (fun g _ hg _ => Below.heap_setCell _ _ _ _ (by show g ≠ w2.heap.size; omega))
          have T9 := Lib.hid (Go.heap_setCell_same _ _ 1 _ _ (.slice a8 (X.length + 1) c8) T8.out)
          have HX3 : Hid (X ++ [(⟨s, nn⟩ : AR)] = sumsW8 la lb n (names.take (k + 1))) := show _ = _ by rw [← HX2.out, if_neg hz]
          clear hHeld hown8 hgrow8 e0 e1 k0 k1 F8
          go_wp2
          go_roundw
          case rel => exact ⟨k + 1, X ++ [(⟨s, nn⟩ : AR)], (.slice a8 (X.length + 1) c8), by omega, by go_num, HX3.out, O9.out, T9.out, K9.out⟩
          case measure => simp [RowKit.intOf]; omega
    · have hltI : ¬ (k : Int) < (names.length : Int) := by omega
      have hkk : names.take k = names := List.take_of_length_le (by omega)
      have hX : X = sumsW8 la lb n names := by rw [HX.out, hkk]
      have hWW : w.heap.size + 1 + 1 < w4.heap.size := by omega
      have HXb : Hid (NmB8 X ∧ affOk8 dd X = ok) := show _ ∧ _ by rw [hX]; exact ⟨HNB.out, HOK.out⟩
      have HXE := Lib.hid hX
      obtain ⟨⟨y0, y1⟩, _⟩ := blk2 HT.out
      clear hX hkk
      go_wp2_with fail
      refine (spec_AffOk dd X (by have := HXN.out; omega) HXb.out.1 _ _ (AV.ofOwn8 HOw.out) ok HXb.out.2).mono ?_
      rintro e w5 ⟨rfl, hb5⟩
      have T5 := Lib.hid ((hb5.block _ (by omega)).trans HT.out)
      have R5 := Lib.hid ((hb5.block _ (by omega)).trans QR.out.2.2)
      have O5 := Lib.hid (own_below8 HOw.out hb5)
      have BB5 := Lib.hid (KW.out.trans (hb5.mono KW.out.size))
      rw [← HXE.out]
      clear hb5 y0 y1 HXb
      obtain ⟨⟨y0, y1⟩, _⟩ := blk2 T5.out
      obtain ⟨⟨z0, z1⟩, k0, k1⟩ := blk2 R5.out
      cases ok with
      | false =>
        go_wp2
        have f0 := Go.heap_setCell_same _ _ 0 _ _ (.int .i64 0) R5.out
        have f1 := Go.heap_setCell_same _ _ 1 _ _ (.slice Option.none 0 0) f0
        clear z0 z1
        obtain ⟨⟨z0, z1⟩, _⟩ := blk2 f1
        have hp : w.heap.size ≤ w.heap.size + 1 + 1 := by omega
        refine bodyPost_ret (v := .tuple #[.agg #[.int .i64 0, .slice Option.none 0 0], .bool false]) (by simp [results, Try.results40, go_sem, z0, z1]) rfl ⟨.slice Option.none 0 0, rfl, (fun h => by cases h), (BB5.out.setCell (p := ⟨w.heap.size + 1 + 1, 0, Option.none⟩) hp _).setCell (p := ⟨w.heap.size + 1 + 1, 1, Option.none⟩) hp _⟩
      | true =>
        go_wp2
        have f0 := Go.heap_setCell_same _ _ 0 _ _ (.int .i64 dd) R5.out
        have f1 := Go.heap_setCell_same _ _ 1 _ _ (.slice oa X.length oc) f0
        clear z0 z1
        obtain ⟨⟨z0, z1⟩, _⟩ := blk2 f1
        have hp : w.heap.size ≤ w.heap.size + 1 + 1 := by omega
        refine bodyPost_ret (v := .tuple #[.agg #[.int .i64 dd, .slice oa X.length oc], .bool true]) (by simp [results, Try.results40, go_sem, z0, z1]) rfl ⟨.slice oa X.length oc, rfl, (fun _ => ?_), (BB5.out.setCell (p := ⟨w.heap.size + 1 + 1, 0, Option.none⟩) hp _).setCell (p := ⟨w.heap.size + 1 + 1, 1, Option.none⟩) hp _⟩
        rw [← HXE.out]
        exact ownMono8 (B := w4.heap.size) (by omega) (own_later8 O5.out fun g _ hg _ => by
          have hne : g ≠ w.heap.size + 1 + 1 := by omega
          exact (Below.heap_setCell _ _ _ _ hne).trans (Below.heap_setCell _ _ _ _ hne))
end Go.Proofs.Ytfacenfiocdbgaa
/-
  l8Sum, AddA and SubA of the specification.
-/
namespace Go.Proofs.Ytfacenfiocdbgaa
open Go.RowKit Go.Lib
set_option linter.unusedSimpArgs false
set_option linter.unusedVariables false

/-- What is answered: a sum in memory of its own, and whether it is one. -/
def Out8 (w : World) (ok : Bool) (c : Int) (L : List AR) (e : Ending) (w' : World) : Prop :=
  ∃ v', e = .returned (.tuple #[.agg #[.int .i64 c, v'], .bool ok]) ∧ w'.ownsRow w.heap.size 59 2 v' L.length (acells L) ∧ Below w.heap.size w w'
theorem Out8.of {w w' : World} {ok : Bool} {c : Int} {L : List AR} {e : Ending} (h : OutSub8 w ok c L e w') : Out8 w ok (if ok = true then c else 0) (if ok = true then L else []) e w' := by
  obtain ⟨v, rfl, ho, hb⟩ := h
  cases ok with
  | true => exact ⟨v, rfl, ho rfl, hb⟩
  | false => exact ⟨.slice Option.none 0 0, rfl, World.ownsRow_nil _ _ _ _, hb⟩
def sumA8 (la lb : List AR) (n : Int) : List AR := sumsW8 la lb n (puts8 (puts8 [] la) lb)
set_option maxHeartbeats 4000000 in
set_option maxRecDepth 100000 in
theorem l8Sum_is (n ca cb : Int) (la lb : List AR) (hl : la.length ≤ 4000000) (hm : lb.length ≤ 4000000) (nl : NmB8 la) (nm : NmB8 lb) (va vb : Value) (w : World) (ha : AV w 0 va la) (hb : AV w 0 vb lb) (names : List ByteArray) (hns : puts8 (puts8 [] la) lb = names) (hnb : NmB8 (sumsW8 la lb n names)) :
    Calls Try.prog 40 #[.agg #[.int .i64 ca, va], .agg #[.int .i64 cb, vb], .int .i64 n] w (OutSub8 w (sumOk8 ca cb n la lb (sumsW8 la lb n names)) (IntKind.i64.wrap (ca + IntKind.i64.wrap (n * cb))) (sumsW8 la lb n names)) := by
  obtain ⟨q0, q1, q2⟩ := heap3t w (.cells #[.int .i64 ca, va] 26) (.cells #[.int .i64 cb, vb] 26) (.cells #[.int .i64 0, .slice Option.none 0 0] 26)
  have hB3 : Below w.heap.size w (((w.alloc (.cells #[.int .i64 ca, va] 26)).alloc (.cells #[.int .i64 cb, vb] 26)).alloc (.cells #[.int .i64 0, .slice Option.none 0 0] 26)) := ((alloc_below w _).alloc (by simp) _).alloc (by simp; omega) _
  have HA := Lib.hid (And.intro ha (And.intro hb (And.intro nl nm)))
  have HN := Lib.hid (And.intro hns hnb)
  obtain ⟨a1, c1, rfl⟩ := ha.shape
  obtain ⟨a2, c2, rfl⟩ := hb.shape
  have B0 := Lib.hid hB3
  have Q := Lib.hid (And.intro q0 (And.intro q1 q2))
  clear ha hb nl nm hB3 q0 q1 q2 hns hnb
  cases ho : affOk8 ca la with
  | false =>
    have R : Hid (sumOk8 ca cb n la lb (sumsW8 la lb n names) = false) := show sumOk8 ca cb n la lb (sumsW8 la lb n names) = false by rw [sumOk8, ho]; rfl
    have HO := Lib.hid ho
    clear ho
    obtain ⟨⟨x0, x1⟩, _⟩ := blk2 Q.out.1
    go_enter Try.func40, Try.ntmps40
    go_wp2_with fail
    refine (spec_AffOk ca la (by omega) HA.out.2.2.1 _ _ (HA.out.1.later B0.out) false HO.out).mono ?_
    rintro e w1 ⟨rfl, hb1⟩
    have r2 := (hb1.block _ (Array.getElem?_eq_some_iff.1 Q.out.2.2).1).trans Q.out.2.2
    have R2 := Lib.hid r2
    have B1 := Lib.hid (B0.out.trans (hb1.mono B0.out.size))
    obtain ⟨⟨e0, e1⟩, k0, k1⟩ := blk2 r2
    clear hb1 r2
    go_wp2
    have f0 := Go.heap_setCell_same _ _ 0 _ _ (.int .i64 0) R2.out
    have f1 := Go.heap_setCell_same _ _ 1 _ _ (.slice Option.none 0 0) f0
    obtain ⟨⟨z0, z1⟩, _⟩ := blk2 f1
    refine bodyPost_ret (v := .tuple #[.agg #[.int .i64 0, .slice Option.none 0 0], .bool false]) (by simp [results, Try.results40, go_sem, z0, z1, e0, e1]) rfl ⟨.slice Option.none 0 0, by rw [R.out]; rfl, (fun h => by rw [R.out] at h; cases h), ?_⟩
    first
      | exact (B1.out.setCell (p := ⟨w.heap.size + 1 + 1, 0, Option.none⟩) (Nat.le_trans (Nat.le_succ _) (Nat.le_succ _)) _).setCell (p := ⟨w.heap.size + 1 + 1, 1, Option.none⟩) (Nat.le_trans (Nat.le_succ _) (Nat.le_succ _)) _
      | exact B1.out
  | true =>
    have HO := Lib.hid ho
    cases ho2 : affOk8 cb lb with
    | false =>
      have R : Hid (sumOk8 ca cb n la lb (sumsW8 la lb n names) = false) := show sumOk8 ca cb n la lb (sumsW8 la lb n names) = false by rw [sumOk8, ho, ho2]; rfl
      have HO2 := Lib.hid ho2
      clear ho ho2
      obtain ⟨⟨x0, x1⟩, _⟩ := blk2 Q.out.1
      go_enter Try.func40, Try.ntmps40
      go_wp2_with fail
      refine (spec_AffOk ca la (by omega) HA.out.2.2.1 _ _ (HA.out.1.later B0.out) true HO.out).mono ?_
      rintro e w1 ⟨rfl, hb1⟩
      have r1 := (hb1.block _ (Array.getElem?_eq_some_iff.1 Q.out.2.1).1).trans Q.out.2.1
      have r2 := (hb1.block _ (Array.getElem?_eq_some_iff.1 Q.out.2.2).1).trans Q.out.2.2
      have R2 := Lib.hid r2
      have B1 := Lib.hid (B0.out.trans (hb1.mono B0.out.size))
      obtain ⟨⟨d0, d1⟩, _⟩ := blk2 r1
      clear hb1 r1 r2
      go_wp2_with fail
      refine (spec_AffOk cb lb (by omega) HA.out.2.2.2 _ _ (HA.out.2.1.later B1.out) false HO2.out).mono ?_
      rintro e w2 ⟨rfl, hb1⟩
      have r2 := (hb1.block _ (Array.getElem?_eq_some_iff.1 R2.out).1).trans R2.out
      have R3 := Lib.hid r2
      have B2 := Lib.hid (B1.out.trans (hb1.mono B1.out.size))
      obtain ⟨⟨e0, e1⟩, k0, k1⟩ := blk2 r2
      clear hb1 r2 d0 d1
      go_wp2
      have f0 := Go.heap_setCell_same _ _ 0 _ _ (.int .i64 0) R3.out
      have f1 := Go.heap_setCell_same _ _ 1 _ _ (.slice Option.none 0 0) f0
      obtain ⟨⟨z0, z1⟩, _⟩ := blk2 f1
      refine bodyPost_ret (v := .tuple #[.agg #[.int .i64 0, .slice Option.none 0 0], .bool false]) (by simp [results, Try.results40, go_sem, z0, z1, e0, e1]) rfl ⟨.slice Option.none 0 0, by rw [R.out]; rfl, (fun h => by rw [R.out] at h; cases h), ?_⟩
      first
        | exact (B2.out.setCell (p := ⟨w.heap.size + 1 + 1, 0, Option.none⟩) (Nat.le_trans (Nat.le_succ _) (Nat.le_succ _)) _).setCell (p := ⟨w.heap.size + 1 + 1, 1, Option.none⟩) (Nat.le_trans (Nat.le_succ _) (Nat.le_succ _)) _
        | exact B2.out
    | true =>
      cases ho3 : affOk8 (IntKind.i64.wrap (ca + IntKind.i64.wrap (n * cb))) (sumsW8 la lb n names) with
      | false =>
        rw [sumOk8, ho, ho2, ho3]
        exact l8Sum_good n ca cb la lb hl hm HA.out.2.2.1 HA.out.2.2.2 _ _ w HA.out.1 HA.out.2.1 names HN.out.1 ho ho2 false ho3 HN.out.2
      | true =>
        rw [sumOk8, ho, ho2, ho3]
        exact l8Sum_good n ca cb la lb hl hm HA.out.2.2.1 HA.out.2.2.2 _ _ w HA.out.1 HA.out.2.1 names HN.out.1 ho ho2 true ho3 HN.out.2
set_option maxHeartbeats 4000000 in
set_option maxRecDepth 100000 in
theorem spec_AddA (ca cb : Int) (la lb : List AR) (hl : la.length ≤ 4000000) (hm : lb.length ≤ 4000000) (nl : NmB8 la) (nm : NmB8 lb) (va vb : Value) (w : World) (ha : AV w 0 va la) (hb : AV w 0 vb lb) (hnb : NmB8 (sumA8 la lb 1)) (ok : Bool) (dd : Int) (L : List AR) (hok : sumOk8 ca cb 1 la lb (sumA8 la lb 1) = ok) (hdd : (if ok = true then IntKind.i64.wrap (ca + IntKind.i64.wrap (1 * cb)) else 0) = dd) (hL : (if ok = true then sumA8 la lb 1 else []) = L) :
    Calls Try.prog 17 #[.agg #[.int .i64 ca, va], .agg #[.int .i64 cb, vb]] w (Out8 w ok dd L) := by
  obtain ⟨q0, q1, q2⟩ := heap3t w (.cells #[.int .i64 ca, va] 26) (.cells #[.int .i64 cb, vb] 26) (.cells #[.int .i64 0, .slice Option.none 0 0] 26)
  have hB3 : Below w.heap.size w (((w.alloc (.cells #[.int .i64 ca, va] 26)).alloc (.cells #[.int .i64 cb, vb] 26)).alloc (.cells #[.int .i64 0, .slice Option.none 0 0] 26)) := ((alloc_below w _).alloc (by simp) _).alloc (by simp; omega) _
  have C0 := Lib.hid (fun w2 hb2 => ((l8Sum_is 1 ca cb la lb hl hm nl nm va vb w2 (ha.later hb2) (hb.later hb2) _ rfl hnb).mono fun e w' h => Out8.of h))
  have C : Hid (∀ w2, Below w.heap.size w w2 → Calls Try.prog 40 #[.agg #[.int .i64 ca, va], .agg #[.int .i64 cb, vb], .int .i64 1] w2 (Out8 w2 ok dd L)) := show ∀ w2, _ → _ from fun w2 hb2 => by
    have := C0.out w2 hb2
    rwa [show sumOk8 ca cb 1 la lb (sumsW8 la lb 1 (puts8 (puts8 [] la) lb)) = ok from hok, hdd, show (if ok = true then sumsW8 la lb 1 (puts8 (puts8 [] la) lb) else []) = L from hL] at this
  obtain ⟨a1, c1, rfl⟩ := ha.shape
  obtain ⟨a2, c2, rfl⟩ := hb.shape
  have B0 := Lib.hid hB3
  have Q := Lib.hid (And.intro q0 (And.intro q1 q2))
  clear ha hb nl nm hB3 q0 q1 q2 hnb C0 hok hdd hL
  obtain ⟨⟨x0, x1⟩, _⟩ := blk2 Q.out.1
  obtain ⟨⟨y0, y1⟩, _⟩ := blk2 Q.out.2.1
  go_enter Try.func17, Try.ntmps17
  go_wp2_with fail
  refine (C.out _ B0.out).mono ?_
  rintro e w5 ⟨v5, rfl, own5, hb5⟩
  obtain ⟨a5, c5, rfl⟩ := ownShape own5
  have O5 := Lib.hid own5
  have r5 := (hb5.block _ (Array.getElem?_eq_some_iff.1 Q.out.2.2).1).trans Q.out.2.2
  have R5 := Lib.hid r5
  have B5 := Lib.hid (B0.out.trans (hb5.mono B0.out.size))
  obtain ⟨⟨e0, e1⟩, k0, k1⟩ := blk2 r5
  clear own5 r5 hb5 x0 x1 y0 y1
  go_wp2
  have f0 := Go.heap_setCell_same _ _ 0 _ _ (.int .i64 dd) R5.out
  have f1 := Go.heap_setCell_same _ _ 1 _ _ (.slice a5 L.length c5) f0
  obtain ⟨⟨z0, z1⟩, _⟩ := blk2 f1
  have hp : w.heap.size ≤ w.heap.size + 1 + 1 := by omega
  refine bodyPost_ret (v := .tuple #[.agg #[.int .i64 dd, .slice a5 L.length c5], .bool ok]) (by simp [results, Try.results17, go_sem, z0, z1]) rfl ⟨.slice a5 L.length c5, rfl, ?_, (B5.out.setCell (p := ⟨w.heap.size + 1 + 1, 0, Option.none⟩) hp _).setCell (p := ⟨w.heap.size + 1 + 1, 1, Option.none⟩) hp _⟩
  have o6 : w5.ownsRow (w.heap.size + 1 + 1 + 1) 59 2 (.slice a5 L.length c5) L.length (acells L) := by
    have := O5.out
    simpa using this
  exact ownMono8 (by omega) (own_later8 o6 fun g _ hg _ => by
    have hne : g ≠ w.heap.size + 1 + 1 := by omega
    exact (Below.heap_setCell _ _ _ _ hne).trans (Below.heap_setCell _ _ _ _ hne))
set_option maxHeartbeats 4000000 in
set_option maxRecDepth 100000 in
theorem spec_SubA (ca cb : Int) (la lb : List AR) (hl : la.length ≤ 4000000) (hm : lb.length ≤ 4000000) (nl : NmB8 la) (nm : NmB8 lb) (va vb : Value) (w : World) (ha : AV w 0 va la) (hb : AV w 0 vb lb) (hnb : NmB8 (sumA8 la lb (-1))) (ok : Bool) (dd : Int) (L : List AR) (hok : sumOk8 ca cb (-1) la lb (sumA8 la lb (-1)) = ok) (hdd : (if ok = true then IntKind.i64.wrap (ca + IntKind.i64.wrap ((-1) * cb)) else 0) = dd) (hL : (if ok = true then sumA8 la lb (-1) else []) = L) :
    Calls Try.prog 18 #[.agg #[.int .i64 ca, va], .agg #[.int .i64 cb, vb]] w (Out8 w ok dd L) := by
  obtain ⟨q0, q1, q2⟩ := heap3t w (.cells #[.int .i64 ca, va] 26) (.cells #[.int .i64 cb, vb] 26) (.cells #[.int .i64 0, .slice Option.none 0 0] 26)
  have hB3 : Below w.heap.size w (((w.alloc (.cells #[.int .i64 ca, va] 26)).alloc (.cells #[.int .i64 cb, vb] 26)).alloc (.cells #[.int .i64 0, .slice Option.none 0 0] 26)) := ((alloc_below w _).alloc (by simp) _).alloc (by simp; omega) _
  have C0 := Lib.hid (fun w2 hb2 => ((l8Sum_is (-1) ca cb la lb hl hm nl nm va vb w2 (ha.later hb2) (hb.later hb2) _ rfl hnb).mono fun e w' h => Out8.of h))
  have C : Hid (∀ w2, Below w.heap.size w w2 → Calls Try.prog 40 #[.agg #[.int .i64 ca, va], .agg #[.int .i64 cb, vb], .int .i64 (-1)] w2 (Out8 w2 ok dd L)) := show ∀ w2, _ → _ from fun w2 hb2 => by
    have := C0.out w2 hb2
    rwa [show sumOk8 ca cb (-1) la lb (sumsW8 la lb (-1) (puts8 (puts8 [] la) lb)) = ok from hok, hdd, show (if ok = true then sumsW8 la lb (-1) (puts8 (puts8 [] la) lb) else []) = L from hL] at this
  obtain ⟨a1, c1, rfl⟩ := ha.shape
  obtain ⟨a2, c2, rfl⟩ := hb.shape
  have B0 := Lib.hid hB3
  have Q := Lib.hid (And.intro q0 (And.intro q1 q2))
  clear ha hb nl nm hB3 q0 q1 q2 hnb C0 hok hdd hL
  obtain ⟨⟨x0, x1⟩, _⟩ := blk2 Q.out.1
  obtain ⟨⟨y0, y1⟩, _⟩ := blk2 Q.out.2.1
  go_enter Try.func18, Try.ntmps18
  go_wp2_with fail
  refine (C.out _ B0.out).mono ?_
  rintro e w5 ⟨v5, rfl, own5, hb5⟩
  obtain ⟨a5, c5, rfl⟩ := ownShape own5
  have O5 := Lib.hid own5
  have r5 := (hb5.block _ (Array.getElem?_eq_some_iff.1 Q.out.2.2).1).trans Q.out.2.2
  have R5 := Lib.hid r5
  have B5 := Lib.hid (B0.out.trans (hb5.mono B0.out.size))
  obtain ⟨⟨e0, e1⟩, k0, k1⟩ := blk2 r5
  clear own5 r5 hb5 x0 x1 y0 y1
  go_wp2
  have f0 := Go.heap_setCell_same _ _ 0 _ _ (.int .i64 dd) R5.out
  have f1 := Go.heap_setCell_same _ _ 1 _ _ (.slice a5 L.length c5) f0
  obtain ⟨⟨z0, z1⟩, _⟩ := blk2 f1
  have hp : w.heap.size ≤ w.heap.size + 1 + 1 := by omega
  refine bodyPost_ret (v := .tuple #[.agg #[.int .i64 dd, .slice a5 L.length c5], .bool ok]) (by simp [results, Try.results18, go_sem, z0, z1]) rfl ⟨.slice a5 L.length c5, rfl, ?_, (B5.out.setCell (p := ⟨w.heap.size + 1 + 1, 0, Option.none⟩) hp _).setCell (p := ⟨w.heap.size + 1 + 1, 1, Option.none⟩) hp _⟩
  have o6 : w5.ownsRow (w.heap.size + 1 + 1 + 1) 59 2 (.slice a5 L.length c5) L.length (acells L) := by
    have := O5.out
    simpa using this
  exact ownMono8 (by omega) (own_later8 o6 fun g _ hg _ => by
    have hne : g ≠ w.heap.size + 1 + 1 := by omega
    exact (Below.heap_setCell _ _ _ _ hne).trans (Below.heap_setCell _ _ _ _ hne))
end Go.Proofs.Ytfacenfiocdbgaa
