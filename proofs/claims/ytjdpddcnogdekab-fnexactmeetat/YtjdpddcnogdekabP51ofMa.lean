/-
  Texts in one: MtAtS, MtAtM.
-/
import Derived.Test.YtjdpddcnogdekabP50ofMa
import Derived.BigQuiet
import Derived.Test.YtjdpddcnogdekabAffOkS
/-
  The values of a sum at a round, whatever all other names are; MeetAt of the specification.
-/
namespace Go.Proofs.Ytjdpddcnogdekab
open Go.RowKit Go.Lib
set_option linter.unusedSimpArgs false
set_option linter.unusedVariables false

theorem rem11 (y m : Nat) : ((y : Int).tmod (m : Int)) = ((y % m : Nat) : Int) := by rw [Int.tmod_eq_emod_of_nonneg (by omega)]; rfl
theorem quo11 (y m : Nat) : ((y : Int).tdiv (m : Int)) = ((y / m : Nat) : Int) := by rw [Int.tdiv_eq_ediv_of_nonneg (by omega)]; rfl
set_option maxHeartbeats 8000000 in
set_option maxRecDepth 100000 in
theorem vals_is (c : Int) (ts : List AR) (hn : ts.length ≤ 1000000000) (hc : -9223372036854775808 ≤ c ∧ c ≤ 9223372036854775807) (s : ByteArray) (i : Int) (rs : List RG) (hm : rs.length ≤ 10000000) (hrs : ∀ t ∈ rs, t.s.size ≤ 281474976710656) (ht : told11 rs = true) (va vr : Value) (w : World) (ha : AV w 0 va ts) (hr : RV w 0 vr rs) :
    Calls Try.prog 26 #[.agg #[.int .i64 c, va], .string s, .int .i64 i, vr] w fun e w' => ∃ v, e = .returned v ∧ IV w' 0 v (valsL11 c ts s i rs) ∧ Below w.heap.size w w' := by
  have HM := Lib.hid (And.intro hn (And.intro hc (And.intro hm hrs)))
  have hmI : (rs.length : Int) ≤ 10000000 := by omega
  have HT := Lib.hid ht
  have hb0 : Below w.heap.size w ((w.alloc (.cells #[.int .i64 c, va] 30)).alloc (.cells #[] 3)) := (alloc_below w _).alloc (by simp) _
  obtain ⟨q0, q1⟩ := heap2q w (.cells #[.int .i64 c, va] 30) (.cells #[] 3)
  have hown0 : ((w.alloc (.cells #[.int .i64 c, va] 30)).alloc (.cells #[] 3)).ownsRow (w.heap.size + 1) 3 1 (.slice (some ⟨w.heap.size + 1, 0, Option.none⟩) 0 0) 0 (ints []) :=
    ⟨by simp [ints], .inr ⟨w.heap.size + 1, 0, #[], rfl, Nat.le_refl _, q1, Nat.le_refl _, by simp [maxLen], by simp, by simp [ints]⟩⟩
  obtain ⟨a1, c1, rfl⟩ := ha.shape
  obtain ⟨a2, c2, rfl⟩ := hr.shape
  obtain ⟨wB, hwB⟩ : ∃ wB, wB = (w.alloc (.cells #[.int .i64 c, .slice a1 ts.length c1] 30)).alloc (.cells #[] 3) := ⟨_, rfl⟩
  rw [← hwB] at hb0 q0 hown0
  have hszB : wB.heap.size = w.heap.size + 1 + 1 := by rw [hwB]; simp
  have BX := Lib.hid (fun (wr : World) (hb : Below (w.heap.size + 1) wB wr) => (hb.block w.heap.size (Nat.lt_succ_self _)).trans q0)
  have LOW := Lib.hid (fun (wr : World) (hb : Below (w.heap.size + 1) wB wr) => hb0.trans (hb.mono (Nat.le_succ _)))
  have HA := Lib.hid (fun (wr : World) (hb : Below (w.heap.size + 1) wB wr) => ha.later (hb0.trans (hb.mono (Nat.le_succ _))))
  have HR := Lib.hid (fun (wr : World) (hb : Below (w.heap.size + 1) wB wr) => hr.later (hb0.trans (hb.mono (Nat.le_succ _))))
  have O0 := Lib.hid hown0
  have B0 := Lib.hid (Below.refl (w.heap.size + 1) wB)
  clear ha hr hb0 q0 q1 hown0 hn hc hm hrs ht
  go_enter Try.func26, Try.ntmps26
  go_wp2_with fail
  rw [← hwB]
  refine (spec_Rounds rs (by have := HM.out; omega) HM.out.2.2.2 _ _ (HR.out _ B0.out)).mono ?_
  rintro e w1 ⟨rfl, hb1⟩
  have B1 := Lib.hid (hb1.mono (show w.heap.size + 1 ≤ wB.heap.size by omega))
  have O1 := Lib.hid (own_later11 O0.out (fun g _ _ hg => hb1.block g (lt_heap11 hg)))
  clear hb1 O0 B0
  clear hwB
  obtain ⟨N, hN⟩ : ∃ N : Nat, Hid (prodS11 s rs = N) := ⟨_, rfl⟩
  cases hs : hasR9 rs s with
  | false =>
    obtain ⟨e1, e2, e3⟩ := split_no HT.out hs
    obtain ⟨K, hK⟩ : ∃ K, Hid (at9 rs 0 s = K) := ⟨_, rfl⟩
    obtain ⟨R, hR⟩ : ∃ R, Hid (rounds9 rs = R) := ⟨_, rfl⟩
    rw [hN.out] at e2 e3
    rw [hK.out] at e1
    rw [hR.out] at e2
    rw [hR.out]
    subst e1
    subst e2
    clear hs
    go_wp2_with fail
    refine (l9At_is rs (by have := HM.out; omega) s _ _ (HR.out _ B1.out)).mono ?_
    rintro e w2 ⟨rfl, rfl⟩
    rw [hK.out]
    go_wp2
    have KI := Lib.hid (fun (j : Nat) (r : RG) (hj : rs[j]? = some r) => (show (j : Int) = (-1) ↔ r.s = s by rw [← hK.out]; exact at9_iff HT.out hj))
    go_loopw [9, 12] (fun u x wr => ∃ x0 : Nat, x0 ≤ N ∧ x = .int .i64 (x0 : Int) ∧ Hid (wr.ownsRow (w.heap.size + 1) 3 1 u x0 (ints ((valsL11 c ts s i rs).take x0))) ∧ Hid (Below (w.heap.size + 1) wB wr)) (fun _ x _ => N - (RowKit.intOf x).toNat)
    case atStart => exact ⟨0, Nat.zero_le _, rfl, O1.out, B1.out⟩
    case round =>
      obtain ⟨x0, hx0, rfl, HO, HB⟩ := hrel
      obtain ⟨ua, uc, rfl⟩ := ownShape11 HO.out
      by_cases hlt : x0 < N
      · have hltI : (x0 : Int) < (N : Int) := by omega
        obtain ⟨wP, hwP⟩ : ∃ wP, wP = wr.alloc (.cells #[.string s, .int .i64 i] 70) := ⟨_, rfl⟩
        have bP : Hid (Below wr.heap.size wr wP) := show Below _ _ _ from hwP ▸ alloc_below wr _
        have V0 : Hid (AV wP 0 (.slice (some ⟨wr.heap.size, 0, Option.none⟩) 1 1) [⟨s, i⟩]) := show AV _ _ _ _ by rw [hwP]; exact one11 (t := ⟨s, i⟩) (heap_last _ _)
        have hs9 : w.heap.size + 1 ≤ wr.heap.size := by have := HB.out.size; omega
        obtain ⟨BB, hBB⟩ : ∃ BB, Hid (bindsGo11 s rs x0 [⟨s, i⟩] = BB) := ⟨_, rfl⟩
        go_wp2
        rw [← hwP]
        clear hwP
        go_loopw [13, 14, 15] (fun b y j wq => ∃ (j0 y0 : Nat) (bs : List AR), j0 ≤ rs.length ∧ j = .int .i64 (j0 : Int) ∧ y = .int .i64 (y0 : Int) ∧ y0 ≤ 600 ∧ bs.length ≤ j0 + 1 ∧ Hid (AV wq 0 b bs) ∧ Hid (bindsGo11 s (rs.drop j0) y0 bs = BB) ∧ Hid (Below wr.heap.size wr wq)) (fun _ _ j _ => rs.length - (RowKit.intOf j).toNat)
        case atStart => exact ⟨0, x0, [⟨s, i⟩], Nat.zero_le _, rfl, rfl, by omega, by simp, V0.out, hBB.out, bP.out⟩
        case round =>
          obtain ⟨j0, y0, bs, hj0, rfl, rfl, hy0, hbl, HV, HG, HQ⟩ := hrel
          obtain ⟨va1, vc1, rfl⟩ := HV.out.shape
          have HB2 := Lib.hid (HB.out.trans (HQ.out.mono hs9))
          by_cases hlj : j0 < rs.length
          · have hljI : (j0 : Int) < (rs.length : Int) := by omega
            obtain ⟨r, hr⟩ : ∃ r, rs[j0]? = some r := ⟨rs[j0], List.getElem?_eq_getElem hlj⟩
            have HRj := Lib.hid hr
            by_cases he : r.s = s
            · have hk : (j0 : Int) = (-1) := (KI.out j0 r hr).2 he
              have HG2 : Hid (bindsGo11 s (rs.drop (j0 + 1)) y0 bs = BB) := show _ = _ by rw [← binds_hit hr he]; exact HG.out
              clear hr
              omega
            · have hk : ¬ (j0 : Int) = (-1) := fun e => he ((KI.out j0 r hr).1 e)
              obtain ⟨ao2, cap2, heq, _, hrc⟩ := HR.out _ HB2.out
              injection heq with heq1 heq2 heq3
              subst heq1; subst heq3
              rcases hrc with hrn | ⟨g, off, rfl, _, gl, hcc⟩
              · rw [hrn] at hlj; simp at hlj
              obtain ⟨A0, A1, A2⟩ := hcc j0 r hr
              have hne := he
              obtain ⟨F1, F2, F3, F4, F5, F6⟩ := fit_of (told_prod HT.out).1 r (List.mem_of_getElem? hr)
              clear hcc hr he
              go_wp2_with fail
              go_quiet (fail)
              go_wp2_with fail
              generalize hwq : wr.drewN _ = wq
              have bq : Below wr.heap.size wr wq := hwq ▸ belowD8 (Below.refl _ _) _
              clear hwq
              have hM : ((cnt11 r : Nat) : Int) = r.hi - r.lo + 1 := by unfold cnt11; omega
              have HG2 := Lib.hid (HG.out.symm.trans (binds_go HRj.out hne)).symm
              rw [← hM]
              have hMb : 1 ≤ cnt11 r ∧ cnt11 r ≤ 20001 := by omega
              generalize cnt11 r = M at hMb hM HG2 ⊢
              clear hM
              have hV := HV.out.later bq
              have hQ := HQ.out.trans (bq.mono HQ.out.size)
              have hM0 : ¬ (M : Int) = 0 := by omega
              have hr0 : y0 % M < M := Nat.mod_lt _ (by omega)
              have hd0 : y0 / M ≤ 600 := Nat.le_trans (Nat.div_le_self _ _) hy0
              have hr1 : (y0 : Int).tmod (M : Int) = ((y0 % M : Nat) : Int) := rem11 y0 M
              have hd1 : (y0 : Int).tdiv (M : Int) = ((y0 / M : Nat) : Int) := quo11 y0 M
              generalize y0 % M = ym at hr0 hr1 HG2 ⊢
              generalize y0 / M = yd at hd0 hd1 HG2 ⊢
              obtain ⟨mI, hmI2⟩ : ∃ m : Int, (M : Int) = m := ⟨_, rfl⟩
              obtain ⟨yI, hyI2⟩ : ∃ y : Int, (y0 : Int) = y := ⟨_, rfl⟩
              rw [hmI2] at hM0 hr1 hd1
              rw [hyI2] at hr1 hd1
              rw [hmI2, hyI2]
              have hd2 : wrap64 (yI.tdiv mI) = (yd : Int) := by rw [hd1]; unfold wrap64; omega
              have HD2 := Lib.hid hd2
              have hymB : (ym : Int) ≤ 20001 := by omega
              clear hmI2 hyI2 hd1 hd2 hMb hr0
              have CL := Lib.hid (fun (wz : World) (hz : Below wq.heap.size wq wz) => And.intro ((hz.cell (p := ⟨g, off + j0 * 3, Option.none⟩) (Nat.lt_of_lt_of_le gl bq.size)).trans ((bq.cell (p := ⟨g, off + j0 * 3, Option.none⟩) gl).trans A0)) (And.intro ((hz.cell (p := ⟨g, off + j0 * 3 + 1, Option.none⟩) (Nat.lt_of_lt_of_le gl bq.size)).trans ((bq.cell (p := ⟨g, off + j0 * 3 + 1, Option.none⟩) gl).trans A1)) True.intro))
              clear A0 A1 A2
              have bd : Below wq.heap.size wq wq.drew := (Below.refl _ wq).drew
              refine wp_region_held_drew (S := Below wq.heap.size wq) (by kernel_rfl) bd (fun hHeld => ?_)
              clear bd
              obtain ⟨wD, hwD⟩ : ∃ wD, wD = wq.drew := ⟨_, rfl⟩
              rw [← hwD] at hHeld ⊢
              clear hwD
              refine wpAnyH_take (i := 0) (v := .slice (some ⟨g, off, Option.none⟩) rs.length c2) rfl (by kernel_rfl) (by kernel_rfl) (by kernel_rfl) (fun _ _ _ h => h) (Or.inl ⟨by rfl, ?yv0⟩) hHeld ?_
              case yv0 => intro w hSw; go_simp
              simp only [Act.put, List.getElem_toArray, List.getElem_cons_succ, List.getElem_cons_zero, List.setIfInBounds_toArray, List.set_cons_zero, List.set_cons_succ]
              refine wpAnyH_take (i := 1) (v := .int .i64 (j0 : Int)) rfl (by kernel_rfl) (by kernel_rfl) (by kernel_rfl) (fun _ _ _ h => h) (Or.inl ⟨by rfl, ?yv1⟩) hHeld ?_
              case yv1 => intro w hSw; go_simp
              simp only [Act.put, List.getElem_toArray, List.getElem_cons_succ, List.getElem_cons_zero, List.setIfInBounds_toArray, List.set_cons_zero, List.set_cons_succ]
              refine wpAnyH_take (i := 2) (v := .pointer (some ⟨g, off + j0 * 3, Option.none⟩)) rfl (by kernel_rfl) (by kernel_rfl) (by kernel_rfl) (fun _ _ _ h => h) (Or.inl ⟨by rfl, ?yv2⟩) hHeld ?_
              case yv2 => intro w hSw; go_simp
              simp only [Act.put, List.getElem_toArray, List.getElem_cons_succ, List.getElem_cons_zero, List.setIfInBounds_toArray, List.set_cons_zero, List.set_cons_succ]
              refine wpAnyH_take (i := 3) (v := .pointer (some ⟨g, off + j0 * 3, Option.none⟩)) rfl (by kernel_rfl) (by kernel_rfl) (by kernel_rfl) (fun _ _ _ h => h) (Or.inl ⟨by rfl, ?yv3⟩) hHeld ?_
              case yv3 => intro w hSw; go_simp
              simp only [Act.put, List.getElem_toArray, List.getElem_cons_succ, List.getElem_cons_zero, List.setIfInBounds_toArray, List.set_cons_zero, List.set_cons_succ]
              refine wpAnyH_take (i := 4) (v := .string r.s) rfl (by kernel_rfl) (by kernel_rfl) (by kernel_rfl) (fun _ _ _ h => h) (Or.inl ⟨by rfl, ?yv4⟩) hHeld ?_
              case yv4 => intro w hSw; obtain ⟨j0, j1, j2⟩ := CL.out w hSw; go_simp
              simp only [Act.put, List.getElem_toArray, List.getElem_cons_succ, List.getElem_cons_zero, List.setIfInBounds_toArray, List.set_cons_zero, List.set_cons_succ]
              refine wpAnyH_take (i := 5) (v := .slice (some ⟨g, off, Option.none⟩) rs.length c2) rfl (by kernel_rfl) (by kernel_rfl) (by kernel_rfl) (fun _ _ _ h => h) (Or.inl ⟨by rfl, ?yv5⟩) hHeld ?_
              case yv5 => intro w hSw; go_simp
              simp only [Act.put, List.getElem_toArray, List.getElem_cons_succ, List.getElem_cons_zero, List.setIfInBounds_toArray, List.set_cons_zero, List.set_cons_succ]
              refine wpAnyH_take (i := 6) (v := .int .i64 (j0 : Int)) rfl (by kernel_rfl) (by kernel_rfl) (by kernel_rfl) (fun _ _ _ h => h) (Or.inl ⟨by rfl, ?yv6⟩) hHeld ?_
              case yv6 => intro w hSw; go_simp
              simp only [Act.put, List.getElem_toArray, List.getElem_cons_succ, List.getElem_cons_zero, List.setIfInBounds_toArray, List.set_cons_zero, List.set_cons_succ]
              refine wpAnyH_take (i := 7) (v := .pointer (some ⟨g, off + j0 * 3, Option.none⟩)) rfl (by kernel_rfl) (by kernel_rfl) (by kernel_rfl) (fun _ _ _ h => h) (Or.inl ⟨by rfl, ?yv7⟩) hHeld ?_
              case yv7 => intro w hSw; go_simp
              simp only [Act.put, List.getElem_toArray, List.getElem_cons_succ, List.getElem_cons_zero, List.setIfInBounds_toArray, List.set_cons_zero, List.set_cons_succ]
              refine wpAnyH_take (i := 8) (v := .pointer (some ⟨g, off + j0 * 3 + 1, Option.none⟩)) rfl (by kernel_rfl) (by kernel_rfl) (by kernel_rfl) (fun _ _ _ h => h) (Or.inl ⟨by rfl, ?yv8⟩) hHeld ?_
              case yv8 => intro w hSw; go_simp
              simp only [Act.put, List.getElem_toArray, List.getElem_cons_succ, List.getElem_cons_zero, List.setIfInBounds_toArray, List.set_cons_zero, List.set_cons_succ]
              refine wpAnyH_take (i := 9) (v := .int .i64 r.lo) rfl (by kernel_rfl) (by kernel_rfl) (by kernel_rfl) (fun _ _ _ h => h) (Or.inl ⟨by rfl, ?yv9⟩) hHeld ?_
              case yv9 => intro w hSw; obtain ⟨j0, j1, j2⟩ := CL.out w hSw; go_simp
              simp only [Act.put, List.getElem_toArray, List.getElem_cons_succ, List.getElem_cons_zero, List.setIfInBounds_toArray, List.set_cons_zero, List.set_cons_succ]
              refine wpAnyH_take (i := 10) (v := .int .i64 yI) rfl (by kernel_rfl) (by kernel_rfl) (by kernel_rfl) (fun _ _ _ h => h) (Or.inl ⟨by rfl, ?yv10⟩) hHeld ?_
              case yv10 => intro w hSw; go_simp
              simp only [Act.put, List.getElem_toArray, List.getElem_cons_succ, List.getElem_cons_zero, List.setIfInBounds_toArray, List.set_cons_zero, List.set_cons_succ]
              refine wpAnyH_take (i := 11) (v := .int .i64 mI) rfl (by kernel_rfl) (by kernel_rfl) (by kernel_rfl) (fun _ _ _ h => h) (Or.inl ⟨by rfl, ?yv11⟩) hHeld ?_
              case yv11 => intro w hSw; go_simp
              simp only [Act.put, List.getElem_toArray, List.getElem_cons_succ, List.getElem_cons_zero, List.setIfInBounds_toArray, List.set_cons_zero, List.set_cons_succ]
              refine wpAnyH_take (i := 12) (v := .int .i64 (ym : Int)) rfl (by kernel_rfl) (by kernel_rfl) (by kernel_rfl) (fun _ _ _ h => h) (Or.inl ⟨by rfl, ?yv12⟩) hHeld ?_
              case yv12 => intro w hSw; go_simp
              simp only [Act.put, List.getElem_toArray, List.getElem_cons_succ, List.getElem_cons_zero, List.setIfInBounds_toArray, List.set_cons_zero, List.set_cons_succ]
              refine wpAnyH_take (i := 13) (v := .int .i64 (r.lo + (ym : Int))) rfl (by kernel_rfl) (by kernel_rfl) (by kernel_rfl) (fun _ _ _ h => h) (Or.inl ⟨by rfl, ?yv13⟩) hHeld ?_
              case yv13 => intro w hSw; go_simp; rw [IntKind.wrap_i64]; omega
              simp only [Act.put, List.getElem_toArray, List.getElem_cons_succ, List.getElem_cons_zero, List.setIfInBounds_toArray, List.set_cons_zero, List.set_cons_succ]
              refine wpAnyH_take (i := 14) (v := .agg #[.string r.s, .int .i64 (r.lo + (ym : Int))]) rfl (by kernel_rfl) (by kernel_rfl) (by kernel_rfl) (fun _ _ _ h => h) (Or.inl ⟨by rfl, ?yv14⟩) hHeld ?_
              case yv14 => intro w hSw; go_simp
              simp only [Act.put, List.getElem_toArray, List.getElem_cons_succ, List.getElem_cons_zero, List.setIfInBounds_toArray, List.set_cons_zero, List.set_cons_succ]
              refine wpAnyH_take (i := 16) (v := .slice va1 bs.length vc1) rfl (by kernel_rfl) (by kernel_rfl) (by kernel_rfl) (fun _ _ _ h => h) (Or.inl ⟨by rfl, ?yv16⟩) hHeld ?_
              case yv16 => intro w hSw; go_simp
              simp only [Act.put, List.getElem_toArray, List.getElem_cons_succ, List.getElem_cons_zero, List.setIfInBounds_toArray, List.set_cons_zero, List.set_cons_succ]
              refine wpAnyH_ready (rs := [15]) (by kernel_rfl) (by simp) ?_
              refine AllReadyH.cons rfl (fun K hK => ?_) AllReadyH.nil
              rw [if_pos (by rfl)]
              simp only [List.getElem_toArray, List.getElem_cons_succ, List.getElem_cons_zero]
              go_wp2_with fail
              have bb := alloc_below wD (.cells #[.string r.s, .int .i64 (r.lo + (ym : Int))] 70)
              obtain ⟨v', w8, hrun, hav, hb8⟩ := appB11 (w := wD) ⟨r.s, r.lo + (ym : Int)⟩ (hV.later hHeld) (by have := HM.out; omega) 71
              have hh8 := hHeld.trans (hb8.mono hHeld.size)
              refine hK.out _ _ (hHeld.trans (bb.mono hHeld.size)) (fun hHeld => ?_)
              clear hK bb
              obtain ⟨va8, vc8, rfl⟩ := hav.shape
              refine wpAnyH_ready (rs := [17]) (by kernel_rfl) (by simp) ?_
              refine AllReadyH.cons rfl (fun K hK => ?_) AllReadyH.nil
              rw [if_pos (by rfl)]
              simp only [List.getElem_toArray, List.getElem_cons_succ, List.getElem_cons_zero]
              refine wp_app11 _ _ 71 _ _ _ rfl (by rfl) (by rfl) hrun ?_
              refine hK.out _ _ hh8 (fun hHeld => ?_)
              clear hK hrun
              simp only [Act.put, List.getElem_toArray, List.getElem_cons_succ, List.getElem_cons_zero, List.setIfInBounds_toArray, List.set_cons_zero, List.set_cons_succ]
              refine wpAnyH_take (i := 18) (v := .slice va8 (bs.length + 1) vc8) rfl (by kernel_rfl) (by kernel_rfl) (by kernel_rfl) (fun _ _ _ h => h) (Or.inl ⟨by rfl, ?yv18⟩) hHeld ?_
              case yv18 => intro w hSw; go_simp
              simp only [Act.put, List.getElem_toArray, List.getElem_cons_succ, List.getElem_cons_zero, List.setIfInBounds_toArray, List.set_cons_zero, List.set_cons_succ]
              refine wpAnyH_done (by kernel_rfl) ?_ _
              clear CL
              have hd2 := HD2.out
              go_wp2
              go_roundw
              case rel => exact ⟨j0 + 1, yd, ⟨r.s, r.lo + (ym : Int)⟩ :: bs, by omega, by go_num, by rw [HD2.out], hd0, by simp; omega, hav, HG2.out, hQ.trans (hh8.mono hQ.size)⟩
              case measure => simp [RowKit.intOf]; omega
          · have hbs : Hid (bs = BB) := show _ = _ by
              have hj : j0 = rs.length := by omega
              rw [← HG.out, hj, binds_end]
            obtain ⟨⟨z0, z1⟩, _⟩ := blk2 (BX.out _ HB2.out)
            have hbl2 : bs.length ≤ 10000001 := by omega
            clear hbl
            go_wp2_with fail
            refine (spec_AffAt c ts HM.out.1 HM.out.2.1 bs (by omega) _ _ _ (HA.out _ HB2.out) HV.out).mono ?_
            rintro e w3 ⟨rfl, hb3⟩
            have HQ3 := Lib.hid (HQ.out.trans (hb3.mono HQ.out.size))
            have hs3 : w.heap.size + 1 ≤ w3.heap.size := Nat.le_trans hs9 HQ3.out.size
            clear hb3
            have VT : Hid ((valsL11 c ts s i rs).take (x0 + 1) = (valsL11 c ts s i rs).take x0 ++ [affAt8 c ts bs]) := show _ = _ by rw [valsL11_take c ts s i rs (by rw [hN.out]; exact hlt), hBB.out, hbs.out]
            obtain ⟨zz, hzz⟩ : ∃ z, affAt8 c ts bs = z := ⟨_, rfl⟩
            rw [hzz] at VT ⊢
            obtain ⟨v', w8, hrun, hown, hbb⟩ := appI11 (own_later11 HO.out (fun g _ _ hg => HQ3.out.block g (lt_heap11 hg))) hs3 zz (by omega) 53
            rw [← VT.out] at hown
            have HO8 := Lib.hid hown
            have HB8 := Lib.hid ((HB.out.trans (HQ3.out.mono hs9)).trans hbb)
            obtain ⟨a8, c8, rfl⟩ := ownShape11 hown
            clear hown hbb z0 z1 hzz VT
            go_wp2_with (at_builtin; refine wpList_app11 rfl _ _ 53 _ _ _ rfl rfl rfl hrun ?_)
            go_roundw
            case rel => exact ⟨x0 + 1, by omega, by go_num, HO8.out, HB8.out⟩
            case measure => simp [RowKit.intOf]; omega
      · have HE : Hid ((valsL11 c ts s i rs).take x0 = valsL11 c ts s i rs) := show _ = _ by
          rw [List.take_of_length_le]; rw [valsL11_len, hN.out]; omega
        have HV := Lib.hid (IV.of (by rw [valsL11_len, hN.out]; omega) (HE.out ▸ HO.out)).low
        have HL := Lib.hid (LOW.out _ HB.out)
        go_wp2
        go_ret
        exact ⟨_, rfl, HV.out, HL.out⟩
  | true =>
    obtain ⟨k0, r0, f1, f2, f3, f4, f5, f6, f7⟩ := split_has HT.out hs
    rw [hN.out] at f4 f7
    have hRp : 0 < rounds9 rs := by have := HT.out; simp only [told11, Bool.and_eq_true, decide_eq_true_eq] at this; exact this.1
    obtain ⟨R, hR⟩ : ∃ R, Hid (rounds9 rs = R) := ⟨_, rfl⟩
    rw [hR.out] at f4 hRp
    rw [hR.out]
    have hK : Hid (at9 rs 0 s = (k0 : Int)) := f3
    have hklt : k0 < rs.length := (List.getElem?_eq_some_iff.1 f1).1
    have hkltI : (k0 : Int) < (rs.length : Int) := by omega
    have e3 : (N : Int) ≤ 600 := f7
    have hq : wrap64 (R.tdiv (r0.hi - r0.lo + 1)) = (N : Int) := by
      rw [f4, Int.mul_tdiv_cancel_left _ (by omega)]; unfold wrap64; omega
    have hq0 : ¬ r0.hi - r0.lo + 1 = 0 := by omega
    obtain ⟨G1, G2, G3, G4, G5, G6⟩ := fit_of (told_prod HT.out).1 r0 (List.mem_of_getElem? f1)
    have HQ := Lib.hid hq
    obtain ⟨ao2, cap2, heq, _, hrc⟩ := HR.out _ B1.out
    injection heq with heq1 heq2 heq3
    subst heq1; subst heq3
    rcases hrc with hrn | ⟨g, off, rfl, _, gl, hcc⟩
    · rw [hrn] at hklt; simp at hklt
    obtain ⟨A0, A1, A2⟩ := hcc k0 r0 f1
    clear hcc hs f1 f2 f3 f4 f7 hq
    go_wp2_with fail
    refine (l9At_is rs (by have := HM.out; omega) s _ _ (HR.out _ B1.out)).mono ?_
    rintro e w2 ⟨rfl, rfl⟩
    rw [hK.out]
    go_wp2_with fail
    go_quiet (fail)
    generalize hwq : w1.drewN _ = w5
    have b5 : Below w1.heap.size w1 w5 := hwq ▸ belowD8 (Below.refl _ _) _
    have B5 := Lib.hid (B1.out.trans (b5.mono (by have := B1.out.size; omega)))
    have O5 := Lib.hid (own_later11 O1.out (fun g _ _ hg => b5.block g (lt_heap11 hg)))
    clear b5 hwq A0 A1 A2 O1 B1 gl
    rw [HQ.out]
    have B1 := B5
    have O1 := O5
    clear B5 O5 HQ hq0 f5 f6 G1 G2 G3 G4 G5 G6 hRp
    go_wp2
    have KI := Lib.hid (fun (j : Nat) (r : RG) (hj : rs[j]? = some r) => (show (j : Int) = (k0 : Int) ↔ r.s = s by rw [← hK.out]; exact at9_iff HT.out hj))
    go_loopw [9, 12] (fun u x wr => ∃ x0 : Nat, x0 ≤ N ∧ x = .int .i64 (x0 : Int) ∧ Hid (wr.ownsRow (w.heap.size + 1) 3 1 u x0 (ints ((valsL11 c ts s i rs).take x0))) ∧ Hid (Below (w.heap.size + 1) wB wr)) (fun _ x _ => N - (RowKit.intOf x).toNat)
    case atStart => exact ⟨0, Nat.zero_le _, rfl, O1.out, B1.out⟩
    case round =>
      obtain ⟨x0, hx0, rfl, HO, HB⟩ := hrel
      obtain ⟨ua, uc, rfl⟩ := ownShape11 HO.out
      by_cases hlt : x0 < N
      · have hltI : (x0 : Int) < (N : Int) := by omega
        obtain ⟨wP, hwP⟩ : ∃ wP, wP = wr.alloc (.cells #[.string s, .int .i64 i] 70) := ⟨_, rfl⟩
        have bP : Hid (Below wr.heap.size wr wP) := show Below _ _ _ from hwP ▸ alloc_below wr _
        have V0 : Hid (AV wP 0 (.slice (some ⟨wr.heap.size, 0, Option.none⟩) 1 1) [⟨s, i⟩]) := show AV _ _ _ _ by rw [hwP]; exact one11 (t := ⟨s, i⟩) (heap_last _ _)
        have hs9 : w.heap.size + 1 ≤ wr.heap.size := by have := HB.out.size; omega
        obtain ⟨BB, hBB⟩ : ∃ BB, Hid (bindsGo11 s rs x0 [⟨s, i⟩] = BB) := ⟨_, rfl⟩
        go_wp2
        rw [← hwP]
        clear hwP
        go_loopw [13, 14, 15] (fun b y j wq => ∃ (j0 y0 : Nat) (bs : List AR), j0 ≤ rs.length ∧ j = .int .i64 (j0 : Int) ∧ y = .int .i64 (y0 : Int) ∧ y0 ≤ 600 ∧ bs.length ≤ j0 + 1 ∧ Hid (AV wq 0 b bs) ∧ Hid (bindsGo11 s (rs.drop j0) y0 bs = BB) ∧ Hid (Below wr.heap.size wr wq)) (fun _ _ j _ => rs.length - (RowKit.intOf j).toNat)
        case atStart => exact ⟨0, x0, [⟨s, i⟩], Nat.zero_le _, rfl, rfl, by omega, by simp, V0.out, hBB.out, bP.out⟩
        case round =>
          obtain ⟨j0, y0, bs, hj0, rfl, rfl, hy0, hbl, HV, HG, HQ⟩ := hrel
          obtain ⟨va1, vc1, rfl⟩ := HV.out.shape
          have HB2 := Lib.hid (HB.out.trans (HQ.out.mono hs9))
          by_cases hlj : j0 < rs.length
          · have hljI : (j0 : Int) < (rs.length : Int) := by omega
            obtain ⟨r, hr⟩ : ∃ r, rs[j0]? = some r := ⟨rs[j0], List.getElem?_eq_getElem hlj⟩
            have HRj := Lib.hid hr
            by_cases he : r.s = s
            · have hk : (j0 : Int) = (k0 : Int) := (KI.out j0 r hr).2 he
              have HG2 : Hid (bindsGo11 s (rs.drop (j0 + 1)) y0 bs = BB) := show _ = _ by rw [← binds_hit hr he]; exact HG.out
              clear hr
              obtain rfl : j0 = k0 := by omega
              go_wp2
              go_roundw
              case rel => exact ⟨j0 + 1, y0, bs, by omega, by go_num, rfl, hy0, by omega, HV.out, HG2.out, HQ.out⟩
              case measure => simp [RowKit.intOf]; omega
            · have hk : ¬ (j0 : Int) = (k0 : Int) := fun e => he ((KI.out j0 r hr).1 e)
              obtain ⟨ao2, cap2, heq, _, hrc⟩ := HR.out _ HB2.out
              injection heq with heq1 heq2 heq3
              subst heq1; subst heq3
              rcases hrc with hrn | ⟨g1, off1, hge, _, gl, hcc⟩
              · rw [hrn] at hlj; simp at hlj
              injection hge with hge
              injection hge with hg1 hg2
              subst hg1; subst hg2
              obtain ⟨A0, A1, A2⟩ := hcc j0 r hr
              have hne := he
              obtain ⟨F1, F2, F3, F4, F5, F6⟩ := fit_of (told_prod HT.out).1 r (List.mem_of_getElem? hr)
              clear hcc hr he
              go_wp2_with fail
              go_quiet (fail)
              go_wp2_with fail
              generalize hwq : wr.drewN _ = wq
              have bq : Below wr.heap.size wr wq := hwq ▸ belowD8 (Below.refl _ _) _
              clear hwq
              have hM : ((cnt11 r : Nat) : Int) = r.hi - r.lo + 1 := by unfold cnt11; omega
              have HG2 := Lib.hid (HG.out.symm.trans (binds_go HRj.out hne)).symm
              rw [← hM]
              have hMb : 1 ≤ cnt11 r ∧ cnt11 r ≤ 20001 := by omega
              generalize cnt11 r = M at hMb hM HG2 ⊢
              clear hM
              have hV := HV.out.later bq
              have hQ := HQ.out.trans (bq.mono HQ.out.size)
              have hM0 : ¬ (M : Int) = 0 := by omega
              have hr0 : y0 % M < M := Nat.mod_lt _ (by omega)
              have hd0 : y0 / M ≤ 600 := Nat.le_trans (Nat.div_le_self _ _) hy0
              have hr1 : (y0 : Int).tmod (M : Int) = ((y0 % M : Nat) : Int) := rem11 y0 M
              have hd1 : (y0 : Int).tdiv (M : Int) = ((y0 / M : Nat) : Int) := quo11 y0 M
              generalize y0 % M = ym at hr0 hr1 HG2 ⊢
              generalize y0 / M = yd at hd0 hd1 HG2 ⊢
              obtain ⟨mI, hmI2⟩ : ∃ m : Int, (M : Int) = m := ⟨_, rfl⟩
              obtain ⟨yI, hyI2⟩ : ∃ y : Int, (y0 : Int) = y := ⟨_, rfl⟩
              rw [hmI2] at hM0 hr1 hd1
              rw [hyI2] at hr1 hd1
              rw [hmI2, hyI2]
              have hd2 : wrap64 (yI.tdiv mI) = (yd : Int) := by rw [hd1]; unfold wrap64; omega
              have HD2 := Lib.hid hd2
              have hymB : (ym : Int) ≤ 20001 := by omega
              clear hmI2 hyI2 hd1 hd2 hMb hr0
              have CL := Lib.hid (fun (wz : World) (hz : Below wq.heap.size wq wz) => And.intro ((hz.cell (p := ⟨g, off + j0 * 3, Option.none⟩) (Nat.lt_of_lt_of_le gl bq.size)).trans ((bq.cell (p := ⟨g, off + j0 * 3, Option.none⟩) gl).trans A0)) (And.intro ((hz.cell (p := ⟨g, off + j0 * 3 + 1, Option.none⟩) (Nat.lt_of_lt_of_le gl bq.size)).trans ((bq.cell (p := ⟨g, off + j0 * 3 + 1, Option.none⟩) gl).trans A1)) True.intro))
              clear A0 A1 A2
              have bd : Below wq.heap.size wq wq.drew := (Below.refl _ wq).drew
              refine wp_region_held_drew (S := Below wq.heap.size wq) (by kernel_rfl) bd (fun hHeld => ?_)
              clear bd
              obtain ⟨wD, hwD⟩ : ∃ wD, wD = wq.drew := ⟨_, rfl⟩
              rw [← hwD] at hHeld ⊢
              clear hwD
              refine wpAnyH_take (i := 0) (v := .slice (some ⟨g, off, Option.none⟩) rs.length c2) rfl (by kernel_rfl) (by kernel_rfl) (by kernel_rfl) (fun _ _ _ h => h) (Or.inl ⟨by rfl, ?yv0⟩) hHeld ?_
              case yv0 => intro w hSw; go_simp
              simp only [Act.put, List.getElem_toArray, List.getElem_cons_succ, List.getElem_cons_zero, List.setIfInBounds_toArray, List.set_cons_zero, List.set_cons_succ]
              refine wpAnyH_take (i := 1) (v := .int .i64 (j0 : Int)) rfl (by kernel_rfl) (by kernel_rfl) (by kernel_rfl) (fun _ _ _ h => h) (Or.inl ⟨by rfl, ?yv1⟩) hHeld ?_
              case yv1 => intro w hSw; go_simp
              simp only [Act.put, List.getElem_toArray, List.getElem_cons_succ, List.getElem_cons_zero, List.setIfInBounds_toArray, List.set_cons_zero, List.set_cons_succ]
              refine wpAnyH_take (i := 2) (v := .pointer (some ⟨g, off + j0 * 3, Option.none⟩)) rfl (by kernel_rfl) (by kernel_rfl) (by kernel_rfl) (fun _ _ _ h => h) (Or.inl ⟨by rfl, ?yv2⟩) hHeld ?_
              case yv2 => intro w hSw; go_simp
              simp only [Act.put, List.getElem_toArray, List.getElem_cons_succ, List.getElem_cons_zero, List.setIfInBounds_toArray, List.set_cons_zero, List.set_cons_succ]
              refine wpAnyH_take (i := 3) (v := .pointer (some ⟨g, off + j0 * 3, Option.none⟩)) rfl (by kernel_rfl) (by kernel_rfl) (by kernel_rfl) (fun _ _ _ h => h) (Or.inl ⟨by rfl, ?yv3⟩) hHeld ?_
              case yv3 => intro w hSw; go_simp
              simp only [Act.put, List.getElem_toArray, List.getElem_cons_succ, List.getElem_cons_zero, List.setIfInBounds_toArray, List.set_cons_zero, List.set_cons_succ]
              refine wpAnyH_take (i := 4) (v := .string r.s) rfl (by kernel_rfl) (by kernel_rfl) (by kernel_rfl) (fun _ _ _ h => h) (Or.inl ⟨by rfl, ?yv4⟩) hHeld ?_
              case yv4 => intro w hSw; obtain ⟨j0, j1, j2⟩ := CL.out w hSw; go_simp
              simp only [Act.put, List.getElem_toArray, List.getElem_cons_succ, List.getElem_cons_zero, List.setIfInBounds_toArray, List.set_cons_zero, List.set_cons_succ]
              refine wpAnyH_take (i := 5) (v := .slice (some ⟨g, off, Option.none⟩) rs.length c2) rfl (by kernel_rfl) (by kernel_rfl) (by kernel_rfl) (fun _ _ _ h => h) (Or.inl ⟨by rfl, ?yv5⟩) hHeld ?_
              case yv5 => intro w hSw; go_simp
              simp only [Act.put, List.getElem_toArray, List.getElem_cons_succ, List.getElem_cons_zero, List.setIfInBounds_toArray, List.set_cons_zero, List.set_cons_succ]
              refine wpAnyH_take (i := 6) (v := .int .i64 (j0 : Int)) rfl (by kernel_rfl) (by kernel_rfl) (by kernel_rfl) (fun _ _ _ h => h) (Or.inl ⟨by rfl, ?yv6⟩) hHeld ?_
              case yv6 => intro w hSw; go_simp
              simp only [Act.put, List.getElem_toArray, List.getElem_cons_succ, List.getElem_cons_zero, List.setIfInBounds_toArray, List.set_cons_zero, List.set_cons_succ]
              refine wpAnyH_take (i := 7) (v := .pointer (some ⟨g, off + j0 * 3, Option.none⟩)) rfl (by kernel_rfl) (by kernel_rfl) (by kernel_rfl) (fun _ _ _ h => h) (Or.inl ⟨by rfl, ?yv7⟩) hHeld ?_
              case yv7 => intro w hSw; go_simp
              simp only [Act.put, List.getElem_toArray, List.getElem_cons_succ, List.getElem_cons_zero, List.setIfInBounds_toArray, List.set_cons_zero, List.set_cons_succ]
              refine wpAnyH_take (i := 8) (v := .pointer (some ⟨g, off + j0 * 3 + 1, Option.none⟩)) rfl (by kernel_rfl) (by kernel_rfl) (by kernel_rfl) (fun _ _ _ h => h) (Or.inl ⟨by rfl, ?yv8⟩) hHeld ?_
              case yv8 => intro w hSw; go_simp
              simp only [Act.put, List.getElem_toArray, List.getElem_cons_succ, List.getElem_cons_zero, List.setIfInBounds_toArray, List.set_cons_zero, List.set_cons_succ]
              refine wpAnyH_take (i := 9) (v := .int .i64 r.lo) rfl (by kernel_rfl) (by kernel_rfl) (by kernel_rfl) (fun _ _ _ h => h) (Or.inl ⟨by rfl, ?yv9⟩) hHeld ?_
              case yv9 => intro w hSw; obtain ⟨j0, j1, j2⟩ := CL.out w hSw; go_simp
              simp only [Act.put, List.getElem_toArray, List.getElem_cons_succ, List.getElem_cons_zero, List.setIfInBounds_toArray, List.set_cons_zero, List.set_cons_succ]
              refine wpAnyH_take (i := 10) (v := .int .i64 yI) rfl (by kernel_rfl) (by kernel_rfl) (by kernel_rfl) (fun _ _ _ h => h) (Or.inl ⟨by rfl, ?yv10⟩) hHeld ?_
              case yv10 => intro w hSw; go_simp
              simp only [Act.put, List.getElem_toArray, List.getElem_cons_succ, List.getElem_cons_zero, List.setIfInBounds_toArray, List.set_cons_zero, List.set_cons_succ]
              refine wpAnyH_take (i := 11) (v := .int .i64 mI) rfl (by kernel_rfl) (by kernel_rfl) (by kernel_rfl) (fun _ _ _ h => h) (Or.inl ⟨by rfl, ?yv11⟩) hHeld ?_
              case yv11 => intro w hSw; go_simp
              simp only [Act.put, List.getElem_toArray, List.getElem_cons_succ, List.getElem_cons_zero, List.setIfInBounds_toArray, List.set_cons_zero, List.set_cons_succ]
              refine wpAnyH_take (i := 12) (v := .int .i64 (ym : Int)) rfl (by kernel_rfl) (by kernel_rfl) (by kernel_rfl) (fun _ _ _ h => h) (Or.inl ⟨by rfl, ?yv12⟩) hHeld ?_
              case yv12 => intro w hSw; go_simp
              simp only [Act.put, List.getElem_toArray, List.getElem_cons_succ, List.getElem_cons_zero, List.setIfInBounds_toArray, List.set_cons_zero, List.set_cons_succ]
              refine wpAnyH_take (i := 13) (v := .int .i64 (r.lo + (ym : Int))) rfl (by kernel_rfl) (by kernel_rfl) (by kernel_rfl) (fun _ _ _ h => h) (Or.inl ⟨by rfl, ?yv13⟩) hHeld ?_
              case yv13 => intro w hSw; go_simp; rw [IntKind.wrap_i64]; omega
              simp only [Act.put, List.getElem_toArray, List.getElem_cons_succ, List.getElem_cons_zero, List.setIfInBounds_toArray, List.set_cons_zero, List.set_cons_succ]
              refine wpAnyH_take (i := 14) (v := .agg #[.string r.s, .int .i64 (r.lo + (ym : Int))]) rfl (by kernel_rfl) (by kernel_rfl) (by kernel_rfl) (fun _ _ _ h => h) (Or.inl ⟨by rfl, ?yv14⟩) hHeld ?_
              case yv14 => intro w hSw; go_simp
              simp only [Act.put, List.getElem_toArray, List.getElem_cons_succ, List.getElem_cons_zero, List.setIfInBounds_toArray, List.set_cons_zero, List.set_cons_succ]
              refine wpAnyH_take (i := 16) (v := .slice va1 bs.length vc1) rfl (by kernel_rfl) (by kernel_rfl) (by kernel_rfl) (fun _ _ _ h => h) (Or.inl ⟨by rfl, ?yv16⟩) hHeld ?_
              case yv16 => intro w hSw; go_simp
              simp only [Act.put, List.getElem_toArray, List.getElem_cons_succ, List.getElem_cons_zero, List.setIfInBounds_toArray, List.set_cons_zero, List.set_cons_succ]
              refine wpAnyH_ready (rs := [15]) (by kernel_rfl) (by simp) ?_
              refine AllReadyH.cons rfl (fun K hK => ?_) AllReadyH.nil
              rw [if_pos (by rfl)]
              simp only [List.getElem_toArray, List.getElem_cons_succ, List.getElem_cons_zero]
              go_wp2_with fail
              have bb := alloc_below wD (.cells #[.string r.s, .int .i64 (r.lo + (ym : Int))] 70)
              obtain ⟨v', w8, hrun, hav, hb8⟩ := appB11 (w := wD) ⟨r.s, r.lo + (ym : Int)⟩ (hV.later hHeld) (by have := HM.out; omega) 71
              have hh8 := hHeld.trans (hb8.mono hHeld.size)
              refine hK.out _ _ (hHeld.trans (bb.mono hHeld.size)) (fun hHeld => ?_)
              clear hK bb
              obtain ⟨va8, vc8, rfl⟩ := hav.shape
              refine wpAnyH_ready (rs := [17]) (by kernel_rfl) (by simp) ?_
              refine AllReadyH.cons rfl (fun K hK => ?_) AllReadyH.nil
              rw [if_pos (by rfl)]
              simp only [List.getElem_toArray, List.getElem_cons_succ, List.getElem_cons_zero]
              refine wp_app11 _ _ 71 _ _ _ rfl (by rfl) (by rfl) hrun ?_
              refine hK.out _ _ hh8 (fun hHeld => ?_)
              clear hK hrun
              simp only [Act.put, List.getElem_toArray, List.getElem_cons_succ, List.getElem_cons_zero, List.setIfInBounds_toArray, List.set_cons_zero, List.set_cons_succ]
              refine wpAnyH_take (i := 18) (v := .slice va8 (bs.length + 1) vc8) rfl (by kernel_rfl) (by kernel_rfl) (by kernel_rfl) (fun _ _ _ h => h) (Or.inl ⟨by rfl, ?yv18⟩) hHeld ?_
              case yv18 => intro w hSw; go_simp
              simp only [Act.put, List.getElem_toArray, List.getElem_cons_succ, List.getElem_cons_zero, List.setIfInBounds_toArray, List.set_cons_zero, List.set_cons_succ]
              refine wpAnyH_done (by kernel_rfl) ?_ _
              clear CL
              have hd2 := HD2.out
              go_wp2
              go_roundw
              case rel => exact ⟨j0 + 1, yd, ⟨r.s, r.lo + (ym : Int)⟩ :: bs, by omega, by go_num, by rw [HD2.out], hd0, by simp; omega, hav, HG2.out, hQ.trans (hh8.mono hQ.size)⟩
              case measure => simp [RowKit.intOf]; omega
          · have hbs : Hid (bs = BB) := show _ = _ by
              have hj : j0 = rs.length := by omega
              rw [← HG.out, hj, binds_end]
            obtain ⟨⟨z0, z1⟩, _⟩ := blk2 (BX.out _ HB2.out)
            have hbl2 : bs.length ≤ 10000001 := by omega
            clear hbl
            go_wp2_with fail
            refine (spec_AffAt c ts HM.out.1 HM.out.2.1 bs (by omega) _ _ _ (HA.out _ HB2.out) HV.out).mono ?_
            rintro e w3 ⟨rfl, hb3⟩
            have HQ3 := Lib.hid (HQ.out.trans (hb3.mono HQ.out.size))
            have hs3 : w.heap.size + 1 ≤ w3.heap.size := Nat.le_trans hs9 HQ3.out.size
            clear hb3
            have VT : Hid ((valsL11 c ts s i rs).take (x0 + 1) = (valsL11 c ts s i rs).take x0 ++ [affAt8 c ts bs]) := show _ = _ by rw [valsL11_take c ts s i rs (by rw [hN.out]; exact hlt), hBB.out, hbs.out]
            obtain ⟨zz, hzz⟩ : ∃ z, affAt8 c ts bs = z := ⟨_, rfl⟩
            rw [hzz] at VT ⊢
            obtain ⟨v', w8, hrun, hown, hbb⟩ := appI11 (own_later11 HO.out (fun g _ _ hg => HQ3.out.block g (lt_heap11 hg))) hs3 zz (by omega) 53
            rw [← VT.out] at hown
            have HO8 := Lib.hid hown
            have HB8 := Lib.hid ((HB.out.trans (HQ3.out.mono hs9)).trans hbb)
            obtain ⟨a8, c8, rfl⟩ := ownShape11 hown
            clear hown hbb z0 z1 hzz VT
            go_wp2_with (at_builtin; refine wpList_app11 rfl _ _ 53 _ _ _ rfl rfl rfl hrun ?_)
            go_roundw
            case rel => exact ⟨x0 + 1, by omega, by go_num, HO8.out, HB8.out⟩
            case measure => simp [RowKit.intOf]; omega
      · have HE : Hid ((valsL11 c ts s i rs).take x0 = valsL11 c ts s i rs) := show _ = _ by
          rw [List.take_of_length_le]; rw [valsL11_len, hN.out]; omega
        have HV := Lib.hid (IV.of (by rw [valsL11_len, hN.out]; omega) (HE.out ▸ HO.out)).low
        have HL := Lib.hid (LOW.out _ HB.out)
        go_wp2
        go_ret
        exact ⟨_, rfl, HV.out, HL.out⟩
end Go.Proofs.Ytjdpddcnogdekab
/-
  MeetAt of the specification.
-/
namespace Go.Proofs.Ytjdpddcnogdekab
open Go.RowKit Go.Lib
set_option linter.unusedSimpArgs false
set_option linter.unusedVariables false

theorem told_l11 {rs : List RG} {b : Bool} (h : told11 rs = b) : (decide (1 ≤ rounds9 rs) && decide (rounds9 rs ≤ 600)) = b := by
  rw [← h, told11]
  rfl
set_option maxHeartbeats 4000000 in
set_option maxRecDepth 100000 in
theorem smeetA (c : Int) (ts : List AR) (hn : ts.length ≤ 1000000000) (hts : ∀ t ∈ ts, t.s.size ≤ 281474976710656) (d : Int) (us : List AR) (hn2 : us.length ≤ 1000000000) (hus : ∀ t ∈ us, t.s.size ≤ 281474976710656) (s : ByteArray) (i k : Int) (rs : List RG) (hm : rs.length ≤ 10000000) (hrs : ∀ t ∈ rs, t.s.size ≤ 281474976710656) (va vb vr : Value) (w : World) (ha : AV w 0 va ts) (hb : AV w 0 vb us) (hr : RV w 0 vr rs) (v : Bool) (ht : told11 rs = false) (hv : v = false) :
    Calls Try.prog 11 #[.agg #[.int .i64 c, va], .agg #[.int .i64 d, vb], .string s, .int .i64 i, .int .i64 k, vr] w fun e w' => e = .returned (.bool v) ∧ Below w.heap.size w w' := by
  have T0 := Lib.hid (Two11.start w c d 30 ha hb hr)
  have HM := Lib.hid (And.intro hn (And.intro hn2 hm))
  have HS := Lib.hid (And.intro hts (And.intro hus hrs))
  obtain ⟨a1, c1, rfl⟩ := ha.shape
  obtain ⟨a2, c2, rfl⟩ := hb.shape
  obtain ⟨a3, c3, rfl⟩ := hr.shape
  have HT := Lib.hid ht
  have HV := Lib.hid hv
  clear ha hb hr hn hn2 hm hts hus hrs ht hv
  go_enter Try.func11, Try.ntmps11
  go_wp2_with fail
  refine (spec_Rounds rs (by have := HM.out; omega) HS.out.2.2 _ _ T0.out.rr).mono ?_
  rintro e w1 ⟨rfl, hb1⟩
  have T1 := Lib.hid (T0.out.later hb1)
  clear hb1 T0
  obtain ⟨R, hR⟩ : ∃ R, Hid (rounds9 rs = R) := ⟨_, rfl⟩
  have TL : Hid ((decide (1 ≤ R) && decide (R ≤ 600)) = false) := show _ = _ by rw [← hR.out]; exact told_l11 HT.out
  rw [hR.out]
  go_wp2_with fail
  refine (l1In_is _ _ _ _ TL.out _).mono ?_
  rintro e w2 ⟨rfl, rfl⟩
  clear TL
  go_wp2
  go_ret
  exact ⟨by rw [HV.out]; rfl, T1.out.low⟩
set_option maxHeartbeats 4000000 in
set_option maxRecDepth 100000 in
theorem smeetB (c : Int) (ts : List AR) (hn : ts.length ≤ 1000000000) (hts : ∀ t ∈ ts, t.s.size ≤ 281474976710656) (d : Int) (us : List AR) (hn2 : us.length ≤ 1000000000) (hus : ∀ t ∈ us, t.s.size ≤ 281474976710656) (s : ByteArray) (i k : Int) (rs : List RG) (hm : rs.length ≤ 10000000) (hrs : ∀ t ∈ rs, t.s.size ≤ 281474976710656) (va vb vr : Value) (w : World) (ha : AV w 0 va ts) (hb : AV w 0 vb us) (hr : RV w 0 vr rs) (v : Bool) (ht : told11 rs = true) (ho : affOk8 c ts = false) (hv : v = false) :
    Calls Try.prog 11 #[.agg #[.int .i64 c, va], .agg #[.int .i64 d, vb], .string s, .int .i64 i, .int .i64 k, vr] w fun e w' => e = .returned (.bool v) ∧ Below w.heap.size w w' := by
  have T0 := Lib.hid (Two11.start w c d 30 ha hb hr)
  have HM := Lib.hid (And.intro hn (And.intro hn2 hm))
  have HS := Lib.hid (And.intro hts (And.intro hus hrs))
  obtain ⟨a1, c1, rfl⟩ := ha.shape
  obtain ⟨a2, c2, rfl⟩ := hb.shape
  obtain ⟨a3, c3, rfl⟩ := hr.shape
  have HT := Lib.hid ht
  have HV := Lib.hid hv
  have HO := Lib.hid ho
  clear ha hb hr hn hn2 hm hts hus hrs ht hv ho
  go_enter Try.func11, Try.ntmps11
  go_wp2_with fail
  refine (spec_Rounds rs (by have := HM.out; omega) HS.out.2.2 _ _ T0.out.rr).mono ?_
  rintro e w1 ⟨rfl, hb1⟩
  have T1 := Lib.hid (T0.out.later hb1)
  clear hb1 T0
  obtain ⟨R, hR⟩ : ∃ R, Hid (rounds9 rs = R) := ⟨_, rfl⟩
  have TL : Hid ((decide (1 ≤ R) && decide (R ≤ 600)) = true) := show _ = _ by rw [← hR.out]; exact told_l11 HT.out
  rw [hR.out]
  go_wp2_with fail
  refine (l1In_is _ _ _ _ TL.out _).mono ?_
  rintro e w2 ⟨rfl, rfl⟩
  clear TL
  obtain ⟨D0, D1⟩ := And.intro (cellC11 T1.out.r1) (cellT11 T1.out.r1)
  go_wp2_with fail
  refine (spec_AffOk c ts HM.out.1 HS.out.1 _ _ T1.out.a1 false HO.out).mono ?_
  rintro e w3 ⟨rfl, hb1⟩
  have T2 := Lib.hid (T1.out.later hb1)
  clear hb1 T1 D0 D1
  go_wp2
  go_ret
  exact ⟨by rw [HV.out]; rfl, T2.out.low⟩
set_option maxHeartbeats 4000000 in
set_option maxRecDepth 100000 in
theorem smeetC (c : Int) (ts : List AR) (hn : ts.length ≤ 1000000000) (hts : ∀ t ∈ ts, t.s.size ≤ 281474976710656) (d : Int) (us : List AR) (hn2 : us.length ≤ 1000000000) (hus : ∀ t ∈ us, t.s.size ≤ 281474976710656) (s : ByteArray) (i k : Int) (rs : List RG) (hm : rs.length ≤ 10000000) (hrs : ∀ t ∈ rs, t.s.size ≤ 281474976710656) (va vb vr : Value) (w : World) (ha : AV w 0 va ts) (hb : AV w 0 vb us) (hr : RV w 0 vr rs) (v : Bool) (ht : told11 rs = true) (ho : affOk8 c ts = true) (ho2 : affOk8 d us = false) (hv : v = false) :
    Calls Try.prog 11 #[.agg #[.int .i64 c, va], .agg #[.int .i64 d, vb], .string s, .int .i64 i, .int .i64 k, vr] w fun e w' => e = .returned (.bool v) ∧ Below w.heap.size w w' := by
  have T0 := Lib.hid (Two11.start w c d 30 ha hb hr)
  have HM := Lib.hid (And.intro hn (And.intro hn2 hm))
  have HS := Lib.hid (And.intro hts (And.intro hus hrs))
  obtain ⟨a1, c1, rfl⟩ := ha.shape
  obtain ⟨a2, c2, rfl⟩ := hb.shape
  obtain ⟨a3, c3, rfl⟩ := hr.shape
  have HT := Lib.hid ht
  have HV := Lib.hid hv
  have HO := Lib.hid ho
  have HO2 := Lib.hid ho2
  clear ha hb hr hn hn2 hm hts hus hrs ht hv ho ho2
  go_enter Try.func11, Try.ntmps11
  go_wp2_with fail
  refine (spec_Rounds rs (by have := HM.out; omega) HS.out.2.2 _ _ T0.out.rr).mono ?_
  rintro e w1 ⟨rfl, hb1⟩
  have T1 := Lib.hid (T0.out.later hb1)
  clear hb1 T0
  obtain ⟨R, hR⟩ : ∃ R, Hid (rounds9 rs = R) := ⟨_, rfl⟩
  have TL : Hid ((decide (1 ≤ R) && decide (R ≤ 600)) = true) := show _ = _ by rw [← hR.out]; exact told_l11 HT.out
  rw [hR.out]
  go_wp2_with fail
  refine (l1In_is _ _ _ _ TL.out _).mono ?_
  rintro e w2 ⟨rfl, rfl⟩
  clear TL
  obtain ⟨D0, D1⟩ := And.intro (cellC11 T1.out.r1) (cellT11 T1.out.r1)
  go_wp2_with fail
  refine (spec_AffOk c ts HM.out.1 HS.out.1 _ _ T1.out.a1 true HO.out).mono ?_
  rintro e w3 ⟨rfl, hb1⟩
  have T2 := Lib.hid (T1.out.later hb1)
  clear hb1 T1 D0 D1
  obtain ⟨D0, D1⟩ := And.intro (cellC11 T2.out.r2) (cellT11 T2.out.r2)
  go_wp2_with fail
  refine (spec_AffOk d us HM.out.2.1 HS.out.2.1 _ _ T2.out.a2 false HO2.out).mono ?_
  rintro e w4 ⟨rfl, hb1⟩
  have T3 := Lib.hid (T2.out.later hb1)
  clear hb1 T2 D0 D1
  go_wp2
  go_ret
  exact ⟨by rw [HV.out]; rfl, T3.out.low⟩
set_option maxHeartbeats 4000000 in
set_option maxRecDepth 100000 in
theorem smeetD (c : Int) (ts : List AR) (hn : ts.length ≤ 1000000000) (hts : ∀ t ∈ ts, t.s.size ≤ 281474976710656) (d : Int) (us : List AR) (hn2 : us.length ≤ 1000000000) (hus : ∀ t ∈ us, t.s.size ≤ 281474976710656) (s : ByteArray) (i k : Int) (rs : List RG) (hm : rs.length ≤ 10000000) (hrs : ∀ t ∈ rs, t.s.size ≤ 281474976710656) (va vb vr : Value) (w : World) (ha : AV w 0 va ts) (hb : AV w 0 vb us) (hr : RV w 0 vr rs) (v : Bool) (ht : told11 rs = true) (ho : affOk8 c ts = true) (ho2 : affOk8 d us = true) (hv : v = both11 (valsL11 c ts s i rs) (valsL11 d us s k rs)) (hPl0 : (valsL11 c ts s i rs).length ≤ 600) (hQl0 : (valsL11 d us s k rs).length ≤ 600) :
    Calls Try.prog 11 #[.agg #[.int .i64 c, va], .agg #[.int .i64 d, vb], .string s, .int .i64 i, .int .i64 k, vr] w fun e w' => e = .returned (.bool v) ∧ Below w.heap.size w w' := by
  have T0 := Lib.hid (Two11.start w c d 30 ha hb hr)
  have HM := Lib.hid (And.intro hn (And.intro hn2 hm))
  have HS := Lib.hid (And.intro hts (And.intro hus hrs))
  obtain ⟨a1, c1, rfl⟩ := ha.shape
  obtain ⟨a2, c2, rfl⟩ := hb.shape
  obtain ⟨a3, c3, rfl⟩ := hr.shape
  have hPl := Lib.hid hPl0
  have hQl := Lib.hid hQl0
  clear hPl0 hQl0
  have HT := Lib.hid ht
  have HV := Lib.hid hv
  have HO := Lib.hid ho
  have HO2 := Lib.hid ho2
  clear ha hb hr hn hn2 hm hts hus hrs ht hv ho ho2
  go_enter Try.func11, Try.ntmps11
  go_wp2_with fail
  refine (spec_Rounds rs (by have := HM.out; omega) HS.out.2.2 _ _ T0.out.rr).mono ?_
  rintro e w1 ⟨rfl, hb1⟩
  have T1 := Lib.hid (T0.out.later hb1)
  clear hb1 T0
  obtain ⟨R, hR⟩ : ∃ R, Hid (rounds9 rs = R) := ⟨_, rfl⟩
  have TL : Hid ((decide (1 ≤ R) && decide (R ≤ 600)) = true) := show _ = _ by rw [← hR.out]; exact told_l11 HT.out
  rw [hR.out]
  go_wp2_with fail
  refine (l1In_is _ _ _ _ TL.out _).mono ?_
  rintro e w2 ⟨rfl, rfl⟩
  clear TL
  obtain ⟨D0, D1⟩ := And.intro (cellC11 T1.out.r1) (cellT11 T1.out.r1)
  go_wp2_with fail
  refine (spec_AffOk c ts HM.out.1 HS.out.1 _ _ T1.out.a1 true HO.out).mono ?_
  rintro e w3 ⟨rfl, hb1⟩
  have T2 := Lib.hid (T1.out.later hb1)
  clear hb1 T1 D0 D1
  obtain ⟨D0, D1⟩ := And.intro (cellC11 T2.out.r2) (cellT11 T2.out.r2)
  go_wp2_with fail
  refine (spec_AffOk d us HM.out.2.1 HS.out.2.1 _ _ T2.out.a2 true HO2.out).mono ?_
  rintro e w4 ⟨rfl, hb1⟩
  have T3 := Lib.hid (T2.out.later hb1)
  clear hb1 T2 D0 D1
  obtain ⟨D0, D1⟩ := And.intro (cellC11 T3.out.r1) (cellT11 T3.out.r1)
  go_wp2_with fail
  refine (vals_is c ts HM.out.1 (by have := affOk_c HO.out; omega) s i rs HM.out.2.2 HS.out.2.2 HT.out _ _ _ T3.out.a1 T3.out.rr).mono ?_
  rintro e w5 ⟨p1, rfl, hp, hb1⟩
  have T4 := Lib.hid (T3.out.later hb1)
  have P4 := Lib.hid hp
  obtain ⟨pa, pc, rfl⟩ := hp.shape
  clear hb1 T3 D0 D1 hp
  obtain ⟨D0, D1⟩ := And.intro (cellC11 T4.out.r2) (cellT11 T4.out.r2)
  go_wp2_with fail
  refine (vals_is d us HM.out.2.1 (by have := affOk_c HO2.out; omega) s k rs HM.out.2.2 HS.out.2.2 HT.out _ _ _ T4.out.a2 T4.out.rr).mono ?_
  rintro e w6 ⟨q1, rfl, hq, hb1⟩
  have L5 := Lib.hid (T4.out.later hb1).low
  have P5 := Lib.hid (P4.out.later hb1)
  have Q5 := Lib.hid hq
  obtain ⟨qa, qc, rfl⟩ := hq.shape
  clear hb1 T4 P4 D0 D1 hq
  generalize valsL11 c ts s i rs = P at P5 HV hPl ⊢
  generalize valsL11 d us s k rs = Q at Q5 HV hQl ⊢
  have HA := P5.out
  have HB := Q5.out
  obtain ⟨_, _, he1, hra⟩ := HA
  obtain ⟨_, _, he2, hrb⟩ := HB
  injection he1 with he1 _ he3
  subst he1; subst he3
  injection he2 with he1 _ he3
  subst he1; subst he3
  have HA := Lib.hid hra
  have HB := Lib.hid hrb
  have hPI : (P.length : Int) ≤ 9223372036854775807 := by have := hPl.out; omega
  have hQI : (Q.length : Int) ≤ 9223372036854775807 := by have := hQl.out; omega
  clear hra hrb P5 Q5
  go_wp2
  go_loopw [15] (fun x wr => ∃ x0 : Nat, x0 ≤ P.length ∧ x = .int .i64 (x0 : Int) ∧ Hid (∀ p ∈ P.take x0, p ∉ Q) ∧ Hid (Below w6.heap.size w6 wr)) (fun x _ => P.length - (RowKit.intOf x).toNat)
  case atStart => exact ⟨0, Nat.zero_le _, rfl, by intro x hx; simp at hx, Below.refl _ _⟩
  case round =>
    obtain ⟨x0, hx0, rfl, HN, HW⟩ := hrel
    by_cases hlt : x0 < P.length
    · have hltI : (x0 : Int) < (P.length : Int) := by omega
      obtain ⟨p, hp⟩ : ∃ p, P[x0]? = some p := ⟨P[x0], List.getElem?_eq_getElem hlt⟩
      have HP := Lib.hid hp
      clear hp
      go_wp2
      go_loopw [16] (fun y wq => ∃ y0 : Nat, y0 ≤ Q.length ∧ y = .int .i64 (y0 : Int) ∧ Hid (∀ q ∈ Q.take y0, ¬ q = p) ∧ Hid (Below w6.heap.size w6 wq)) (fun y _ => Q.length - (RowKit.intOf y).toNat)
      case atStart => exact ⟨0, Nat.zero_le _, rfl, by intro x hx; simp at hx, HW.out⟩
      case round =>
        obtain ⟨y0, hy0, rfl, HY, HX⟩ := hrel
        by_cases hly : y0 < Q.length
        · have hlyI : (y0 : Int) < (Q.length : Int) := by omega
          obtain ⟨q, hq⟩ : ∃ q, Q[y0]? = some q := ⟨Q[y0], List.getElem?_eq_getElem hly⟩
          rcases HA.out with hr | ⟨g, off, rfl, _, gl, hc⟩
          · subst hr; simp at hlt
          rcases HB.out with hr | ⟨g2, off2, rfl, _, gl2, hc2⟩
          · subst hr; simp at hly
          have A0 := (HX.out.cell (p := ⟨g, off + x0, Option.none⟩) gl).trans (hc x0 p HP.out)
          have B0 := (HX.out.cell (p := ⟨g2, off2 + y0, Option.none⟩) gl2).trans (hc2 y0 q hq)
          have HQ := Lib.hid hq
          clear hc hc2 hq
          by_cases he : p = q
          · have HR : Hid (v = true) := show _ = _ by
              rw [HV.out, both11, List.any_eq_true]
              refine ⟨p, List.mem_of_getElem? HP.out, ?_⟩
              rw [List.any_eq_true]
              exact ⟨q, List.mem_of_getElem? HQ.out, by simp [he]⟩
            subst he
            go_wp2_with fail
            go_quiet (fail)
            go_wp2
            go_ret
            exact ⟨by rw [HR.out]; rfl, (L5.out.trans (HX.out.mono L5.out.size)).trans (belowD8 (Below.refl _ _) _)⟩
          · have HY2 : Hid (∀ z ∈ Q.take (y0 + 1), ¬ z = p) := by
              intro z hz
              rw [List.take_add_one, HQ.out] at hz
              rcases List.mem_append.1 hz with hz | hz
              · exact HY.out z hz
              · simp only [Option.toList_some, List.mem_singleton] at hz; subst hz; exact fun e => he e.symm
            go_wp2_with fail
            go_quiet (fail)
            go_wp2
            go_roundw
            case rel => exact ⟨y0 + 1, by omega, by go_num, HY2.out, belowD8 HX.out _⟩
            case measure => simp [RowKit.intOf]; omega
        · have HN2 : Hid (∀ z ∈ P.take (x0 + 1), z ∉ Q) := by
            intro z hz hzq
            rw [List.take_add_one, HP.out] at hz
            rcases List.mem_append.1 hz with hz | hz
            · exact HN.out z hz hzq
            · simp only [Option.toList_some, List.mem_singleton] at hz
              subst hz
              exact HY.out z (by rw [List.take_of_length_le (by omega)]; exact hzq) rfl
          go_wp2
          go_roundw
          case rel => exact ⟨x0 + 1, by omega, by go_num, HN2.out, HX.out⟩
          case measure => simp [RowKit.intOf]; omega
    · have HR : Hid (v = false) := show _ = _ by
        rw [HV.out]
        cases hh : both11 P Q with
        | false => rfl
        | true =>
          rw [both11, List.any_eq_true] at hh
          obtain ⟨x, hx, hh⟩ := hh
          rw [List.any_eq_true] at hh
          obtain ⟨y, hy, hh⟩ := hh
          simp only [decide_eq_true_eq] at hh
          subst hh
          exact absurd hy (HN.out y (by rw [List.take_of_length_le (by omega)]; exact hx))
      go_wp2
      go_ret
      exact ⟨by rw [HR.out]; rfl, L5.out.trans (HW.out.mono L5.out.size)⟩
theorem spec_MeetAt (c : Int) (ts : List AR) (hn : ts.length ≤ 1000000000) (hts : ∀ t ∈ ts, t.s.size ≤ 281474976710656) (d : Int) (us : List AR) (hn2 : us.length ≤ 1000000000) (hus : ∀ t ∈ us, t.s.size ≤ 281474976710656) (s : ByteArray) (i k : Int) (rs : List RG) (hm : rs.length ≤ 10000000) (hrs : ∀ t ∈ rs, t.s.size ≤ 281474976710656) (va vb vr : Value) (w : World) (ha : AV w 0 va ts) (hb : AV w 0 vb us) (hr : RV w 0 vr rs) (v : Bool) (hv : meetAt11 c ts d us s i k rs = v) :
    Calls Try.prog 11 #[.agg #[.int .i64 c, va], .agg #[.int .i64 d, vb], .string s, .int .i64 i, .int .i64 k, vr] w fun e w' => e = .returned (.bool v) ∧ Below w.heap.size w w' := by
  cases ht : told11 rs with
  | false => exact smeetA c ts hn hts d us hn2 hus s i k rs hm hrs va vb vr w ha hb hr v ht (by rw [← hv, meetAt11, ht]; rfl)
  | true =>
    cases ho : affOk8 c ts with
    | false => exact smeetB c ts hn hts d us hn2 hus s i k rs hm hrs va vb vr w ha hb hr v ht ho (by rw [← hv, meetAt11, ht, ho]; rfl)
    | true =>
      cases ho2 : affOk8 d us with
      | false => exact smeetC c ts hn hts d us hn2 hus s i k rs hm hrs va vb vr w ha hb hr v ht ho ho2 (by rw [← hv, meetAt11, ht, ho, ho2]; rfl)
      | true =>
        have hw := (told_prod ht).1
        have hl : prodS11 s rs ≤ 600 := by
          cases hs : hasR9 rs s with
          | false => have := (split_no ht hs).2.2; omega
          | true => obtain ⟨_, _, _, _, _, _, _, _, h⟩ := split_has ht hs; omega
        refine smeetD c ts hn hts d us hn2 hus s i k rs hm hrs va vb vr w ha hb hr v ht ho ho2 ?_ (by rw [valsL11_len]; exact hl) (by rw [valsL11_len]; exact hl)
        rw [← hv, meetAt11, ht, ho, ho2, both_vals (vals_places ho s i (fit_of hw) (dist_of hw)) (vals_places ho2 s k (fit_of hw) (dist_of hw))]
        rfl
end Go.Proofs.Ytjdpddcnogdekab
