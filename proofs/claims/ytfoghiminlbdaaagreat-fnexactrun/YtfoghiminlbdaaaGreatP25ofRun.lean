/-
  Texts in one: RunSpecU, RunBind, OrdLast.
-/
import Derived.Test.YtfoghiminlbdaaaGreatZp
import Derived.Test.YtfoghiminlbdaaaGreatP24ofRun
import Derived.Laws.OwnMore
import Derived.Deep.AppendLies
import Derived.Test.YtfoghiminlbdaaaGreatP04ofRun
namespace Go.Proofs.YtfoghiminlbdaaaGreat
open Go.RowKit Go.Lib
set_option linter.unusedSimpArgs false
set_option linter.unusedVariables false
set_option maxHeartbeats 4000000 in
set_option maxRecDepth 100000 in
theorem l7Put_is {w0 : World} {R : Nat} {ts : List AR} {ns : List ByteArray} {rs : List VR} {st : St} {bs : List AR} {va vb nv sa sv so bv : Value} (hb : RB ts ns st) (hbl : bs.length ≤ 100000) (hal : st.A.length = ts.length) (hvb : vb.oneCell' = true) (h : SH) (hk1 : ¬ h.k = 1) (hk2 : h.k = 2) (ht1 : toldX 8 h.x1 = true) (ht : toldX 8 h.x2 = true) (w : World) (v1 v2 v3 v4 u : Value) (hr : QS w0 w R ts ns rs st 0 bs va vb nv sa sv so bv) (hv : HV w 0 h v1 v2 v3 v4) :
    Calls Tryz.prog 94 #[.pointer (some ⟨R, 0, Option.none⟩), sagg h v1 v2 v3 v4 u] w fun e w' => e = .returned (.tuple #[]) ∧ SpR w0 R ts ns bs va vb nv sa sv w (simple ts ns bs h st) w' := by
  obtain ⟨a3, c3, hsa⟩ := iownShape hr.out
  subst hsa
  have HB := hid hb
  have HBL := hid hbl
  have HAL := hid hal
  have HT := hid (And.intro ht1 ht)
  have HVB := hid hvb
  have hbA := alloc_below w (.cells (sarr h v1 v2 v3 v4 u) 119)
  have BA := hid hbA
  have R0 := hid (hr.later hbA)
  have SB := hid (boxS w h v1 v2 v3 v4 u 119)
  have E1 := hid (boxX1 SB.out)
  have V1 := hid (hv.e1.later hbA)
  have V2 := hid (hv.e2.later hbA)
  have hsim : Hid (∀ r1 r2, evS ts ns bs st h.x1 = r1 → evS ts ns bs st h.x2 = r2 → ((r1 = none ∨ r2 = none) → simple ts ns bs h st = (1, st)) ∧ ∀ p n, r1 = some p → r2 = some n → (inA ts st.A h.s p = none → simple ts ns bs h st = (1, st)) ∧ ∀ x, inA ts st.A h.s p = some x → simple ts ns bs h st = (0, { st with A := putA ts st.A h.s p n })) := by
    intro r1 r2 e1 e2
    refine ⟨fun hn => ?_, fun p n f1 f2 => ⟨fun hi => ?_, fun x hi => ?_⟩⟩
    · rw [simple, if_neg hk1, if_pos hk2, e1, e2]
      rcases hn with rfl | rfl
      · rfl
      · cases r1 <;> rfl
    · subst f1; subst f2
      rw [simple, if_neg hk1, if_pos hk2, e1, e2]
      simp [hi]
    · subst f1; subst f2
      rw [simple, if_neg hk1, if_pos hk2, e1, e2]
      simp [hi]
  obtain ⟨kk, hkk⟩ : ∃ kk, arrGo ts 0 h.s = kk := ⟨_, rfl⟩
  have HK := hid hkk
  have hkb : kk = -1 ∨ (0 ≤ kk ∧ kk < (ts.length : Int)) := by have := arrGo_bd h.s ts 0; rw [hkk] at this; simpa using this
  have HKB := hid hkb
  clear hr hb hbl hal ht ht1 hvb hbA hv hk1 hk2 hkk hkb
  go_enter Tryz.func94, Tryz.ntmps94
  go_wp2_with (refine wpList_load_mid rfl 43 _ rfl w.heap.size 2 rfl _ _ E1.out Tryz.underlying43 rfl sizeExp4 ?_)
  refine (value_s HB.out HBL.out HVB.out h.x1 HT.out.1 _ v1 R0.out V1.out).mono ?_
  rintro e w1 ⟨he, hb1⟩
  have R1 := hid (R0.out.later hb1)
  have B1 := hid (BA.out.trans (hb1.mono BA.out.size))
  have S1 := hid (rangeAt_later SB.out hb1)
  have V21 := hid (V2.out.later hb1)
  have E2 := hid (boxX2 S1.out)
  obtain ⟨r1, hr1⟩ : ∃ r, evS ts ns bs st h.x1 = r := ⟨_, rfl⟩
  rw [hr1] at he
  have HR1 := hid hr1
  clear hb1 hr1 R0 E1 V1 V2 BA SB
  cases r1 with
  | none =>
    obtain rfl : e = .returned (.tuple #[.int .i64 0, .bool false]) := he
    go_wp2_with fail
    have bd : Below w1.heap.size w1 w1.drew := (Below.refl _ w1).drew
    have Rd := R1.out.later bd
    have cS := rangeAt_later S1.out bd 1 _ rfl
    refine wp_region_held_drew (S := fun w' => w'.rangeAt R 0 [va, vb] ∧ w'.cell? ⟨w.heap.size, 1, Option.none⟩ = some (.string h.s)) (by kernel_rfl) ⟨rrProg Rd.rr, cS⟩ (fun hHeld => ?_)
    refine wpAnyH_take (i := 0) (v := .pointer (some ⟨R, 0, Option.none⟩)) rfl (by kernel_rfl) (by kernel_rfl) (by kernel_rfl) (fun _ _ _ h => h) (Or.inl ⟨by rfl, ?ua0⟩) hHeld ?_
    case ua0 => intro w hSw; go_simp
    simp only [Act.put, zp]
    refine wpAnyH_take (i := 1) (v := .pointer (some ⟨R, 0, Option.none⟩)) rfl (by kernel_rfl) (by kernel_rfl) (by kernel_rfl) (fun _ _ _ h => h) (Or.inl ⟨by rfl, ?ua1⟩) hHeld ?_
    case ua1 => intro w hSw; go_simp
    simp only [Act.put, zp]
    refine wpAnyH_take (i := 2) (v := .pointer (some ⟨R, 0, Option.none⟩)) rfl (by kernel_rfl) (by kernel_rfl) (by kernel_rfl) (fun _ _ _ h => h) (Or.inl ⟨by rfl, ?ua2⟩) hHeld ?_
    case ua2 => intro w hSw; go_simp
    simp only [Act.put, zp]
    refine wpAnyH_take (i := 3) (v := .agg #[va, vb]) rfl (by kernel_rfl) (by kernel_rfl) (by kernel_rfl) (fun _ _ _ h => h) (yieldsIf_load_mid (by rfl) 27 _ rfl (R) (0) rfl [va, vb] _ (fun w h => h.1) Tryz.underlying27 rfl sizeProg2) hHeld ?_
    simp only [Act.put, zp]
    refine wpAnyH_take (i := 4) (v := .pointer (some ⟨w.heap.size, 1, Option.none⟩)) rfl (by kernel_rfl) (by kernel_rfl) (by kernel_rfl) (fun _ _ _ h => h) (Or.inl ⟨by rfl, ?ua4⟩) hHeld ?_
    case ua4 => intro w hSw; go_simp
    simp only [Act.put, zp]
    refine wpAnyH_take (i := 5) (v := .string h.s) rfl (by kernel_rfl) (by kernel_rfl) (by kernel_rfl) (fun _ _ _ h => h) (Or.inl ⟨by rfl, ?ua5⟩) hHeld ?_
    case ua5 => intro w hSw; have h2 := hSw.2; go_simp
    simp only [Act.put, zp]
    refine wpAnyH_ready (rs := [6]) (by kernel_rfl) (by simp) ?_
    refine AllReadyH.cons rfl (fun K hK => ?_) AllReadyH.nil
    rw [if_pos (by rfl)]
    simp only [zq]
    go_wp2_with fail
    refine (spec_ArrAt ts HB.out.t h.s va vb HVB.out _ (Rd.p.later Rd.low)).mono ?_
    rintro e w3 ⟨rfl, hb3⟩
    rw [HK.out]
    go_wp2_with fail
    refine hK.out _ _ (⟨rangeAt_later hHeld.1 hb3, keeps hb3 hHeld.2⟩) (fun hHeld => ?_)
    have R3 := hid (Rd.later hb3)
    have B3 := hid (B1.out.trans ((bd.trans (hb3.mono bd.size)).mono B1.out.size))
    clear Rd cS bd hb3
    refine wpAnyH_take (i := 7) (v := .int .i64 kk) rfl (by kernel_rfl) (by kernel_rfl) (by kernel_rfl) (fun _ _ _ h => h) (Or.inl ⟨by rfl, ?uaz7⟩) hHeld ?_
    case uaz7 => intro w hSw; go_simp
    simp only [Act.put, zp]
    refine wpAnyH_done (by kernel_rfl) ?_ _
    clear hHeld hK
    have hs1 : Hid (simple ts ns bs h st = (1, st)) := (hsim.out none _ HR1.out rfl).1 (by simp)
    have T := hid (R3.out.end_ 1)
    obtain ⟨_, _, _, _, c6, _, _, fz⟩ := R3.out.cells
    have f6 := fz 6
    clear fz
    go_wp2
    refine bodyPost_ret (results_none rfl _ _ _) rfl ?_
    exact ⟨rfl, rs, so, bv, (by rw [hs1.out]; exact T.out.1), (KQ.of B3.out).trans T.out.2, by show w.heap.size ≤ (w3.setCell ⟨R, 6, Option.none⟩ (.int .i64 1)).heap.size; rw [World.size_setCell]; exact B3.out.size⟩
  | some p =>
    obtain rfl : e = .returned (.tuple #[.int .i64 p, .bool true]) := he
    go_wp2_with (refine wpList_load_mid rfl 43 _ rfl w.heap.size 6 rfl _ _ E2.out Tryz.underlying43 rfl sizeExp4 ?_)
    refine (value_s HB.out HBL.out HVB.out h.x2 HT.out.2 _ v2 R1.out V21.out).mono ?_
    rintro e w2 ⟨he, hb2⟩
    have R2 := hid (R1.out.later hb2)
    have B2 := hid (B1.out.trans (hb2.mono B1.out.size))
    have S2 := hid (rangeAt_later S1.out hb2)
    obtain ⟨r2, hr2⟩ : ∃ r, evS ts ns bs st h.x2 = r := ⟨_, rfl⟩
    rw [hr2] at he
    have HS := hid (hsim.out (some p) r2 HR1.out hr2)
    clear hb2 hr2 R1 E2 V21 S1 B1 hsim HR1
    cases r2 with
    | none =>
      obtain rfl : e = .returned (.tuple #[.int .i64 0, .bool false]) := he
      go_wp2_with fail
      have bd : Below w2.heap.size w2 w2.drew := (Below.refl _ w2).drew
      have Rd := R2.out.later bd
      have cS := rangeAt_later S2.out bd 1 _ rfl
      refine wp_region_held_drew (S := fun w' => w'.rangeAt R 0 [va, vb] ∧ w'.cell? ⟨w.heap.size, 1, Option.none⟩ = some (.string h.s)) (by kernel_rfl) ⟨rrProg Rd.rr, cS⟩ (fun hHeld => ?_)
      refine wpAnyH_take (i := 0) (v := .pointer (some ⟨R, 0, Option.none⟩)) rfl (by kernel_rfl) (by kernel_rfl) (by kernel_rfl) (fun _ _ _ h => h) (Or.inl ⟨by rfl, ?ub0⟩) hHeld ?_
      case ub0 => intro w hSw; go_simp
      simp only [Act.put, zp]
      refine wpAnyH_take (i := 1) (v := .pointer (some ⟨R, 0, Option.none⟩)) rfl (by kernel_rfl) (by kernel_rfl) (by kernel_rfl) (fun _ _ _ h => h) (Or.inl ⟨by rfl, ?ub1⟩) hHeld ?_
      case ub1 => intro w hSw; go_simp
      simp only [Act.put, zp]
      refine wpAnyH_take (i := 2) (v := .pointer (some ⟨R, 0, Option.none⟩)) rfl (by kernel_rfl) (by kernel_rfl) (by kernel_rfl) (fun _ _ _ h => h) (Or.inl ⟨by rfl, ?ub2⟩) hHeld ?_
      case ub2 => intro w hSw; go_simp
      simp only [Act.put, zp]
      refine wpAnyH_take (i := 3) (v := .agg #[va, vb]) rfl (by kernel_rfl) (by kernel_rfl) (by kernel_rfl) (fun _ _ _ h => h) (yieldsIf_load_mid (by rfl) 27 _ rfl (R) (0) rfl [va, vb] _ (fun w h => h.1) Tryz.underlying27 rfl sizeProg2) hHeld ?_
      simp only [Act.put, zp]
      refine wpAnyH_take (i := 4) (v := .pointer (some ⟨w.heap.size, 1, Option.none⟩)) rfl (by kernel_rfl) (by kernel_rfl) (by kernel_rfl) (fun _ _ _ h => h) (Or.inl ⟨by rfl, ?ub4⟩) hHeld ?_
      case ub4 => intro w hSw; go_simp
      simp only [Act.put, zp]
      refine wpAnyH_take (i := 5) (v := .string h.s) rfl (by kernel_rfl) (by kernel_rfl) (by kernel_rfl) (fun _ _ _ h => h) (Or.inl ⟨by rfl, ?ub5⟩) hHeld ?_
      case ub5 => intro w hSw; have h2 := hSw.2; go_simp
      simp only [Act.put, zp]
      refine wpAnyH_ready (rs := [6]) (by kernel_rfl) (by simp) ?_
      refine AllReadyH.cons rfl (fun K hK => ?_) AllReadyH.nil
      rw [if_pos (by rfl)]
      simp only [zq]
      go_wp2_with fail
      refine (spec_ArrAt ts HB.out.t h.s va vb HVB.out _ (Rd.p.later Rd.low)).mono ?_
      rintro e w3 ⟨rfl, hb3⟩
      rw [HK.out]
      go_wp2_with fail
      refine hK.out _ _ (⟨rangeAt_later hHeld.1 hb3, keeps hb3 hHeld.2⟩) (fun hHeld => ?_)
      have R3 := hid (Rd.later hb3)
      have B3 := hid (B2.out.trans ((bd.trans (hb3.mono bd.size)).mono B2.out.size))
      clear Rd cS bd hb3
      refine wpAnyH_take (i := 7) (v := .int .i64 kk) rfl (by kernel_rfl) (by kernel_rfl) (by kernel_rfl) (fun _ _ _ h => h) (Or.inl ⟨by rfl, ?ubz7⟩) hHeld ?_
      case ubz7 => intro w hSw; go_simp
      simp only [Act.put, zp]
      refine wpAnyH_done (by kernel_rfl) ?_ _
      clear hHeld hK
      have hs1 : Hid (simple ts ns bs h st = (1, st)) := HS.out.1 (by simp)
      have T := hid (R3.out.end_ 1)
      obtain ⟨_, _, _, _, c6, _, _, fz⟩ := R3.out.cells
      have f6 := fz 6
      clear fz
      go_wp2
      refine bodyPost_ret (results_none rfl _ _ _) rfl ?_
      exact ⟨rfl, rs, so, bv, (by rw [hs1.out]; exact T.out.1), (KQ.of B3.out).trans T.out.2, by show w.heap.size ≤ (w3.setCell ⟨R, 6, Option.none⟩ (.int .i64 1)).heap.size; rw [World.size_setCell]; exact B3.out.size⟩
    | some n =>
      obtain rfl : e = .returned (.tuple #[.int .i64 n, .bool true]) := he
      have HS1 := hid (HS.out.2 p n rfl rfl)
      clear HS
      go_wp2_with fail
      have bd : Below w2.heap.size w2 w2.drew := (Below.refl _ w2).drew
      have Rd := R2.out.later bd
      have cS := rangeAt_later S2.out bd 1 _ rfl
      refine wp_region_held_drew (S := fun w' => w'.rangeAt R 0 [va, vb] ∧ w'.cell? ⟨w.heap.size, 1, Option.none⟩ = some (.string h.s)) (by kernel_rfl) ⟨rrProg Rd.rr, cS⟩ (fun hHeld => ?_)
      refine wpAnyH_take (i := 0) (v := .pointer (some ⟨R, 0, Option.none⟩)) rfl (by kernel_rfl) (by kernel_rfl) (by kernel_rfl) (fun _ _ _ h => h) (Or.inl ⟨by rfl, ?uc0⟩) hHeld ?_
      case uc0 => intro w hSw; go_simp
      simp only [Act.put, zp]
      refine wpAnyH_take (i := 1) (v := .pointer (some ⟨R, 0, Option.none⟩)) rfl (by kernel_rfl) (by kernel_rfl) (by kernel_rfl) (fun _ _ _ h => h) (Or.inl ⟨by rfl, ?uc1⟩) hHeld ?_
      case uc1 => intro w hSw; go_simp
      simp only [Act.put, zp]
      refine wpAnyH_take (i := 2) (v := .pointer (some ⟨R, 0, Option.none⟩)) rfl (by kernel_rfl) (by kernel_rfl) (by kernel_rfl) (fun _ _ _ h => h) (Or.inl ⟨by rfl, ?uc2⟩) hHeld ?_
      case uc2 => intro w hSw; go_simp
      simp only [Act.put, zp]
      refine wpAnyH_take (i := 3) (v := .agg #[va, vb]) rfl (by kernel_rfl) (by kernel_rfl) (by kernel_rfl) (fun _ _ _ h => h) (yieldsIf_load_mid (by rfl) 27 _ rfl (R) (0) rfl [va, vb] _ (fun w h => h.1) Tryz.underlying27 rfl sizeProg2) hHeld ?_
      simp only [Act.put, zp]
      refine wpAnyH_take (i := 4) (v := .pointer (some ⟨w.heap.size, 1, Option.none⟩)) rfl (by kernel_rfl) (by kernel_rfl) (by kernel_rfl) (fun _ _ _ h => h) (Or.inl ⟨by rfl, ?uc4⟩) hHeld ?_
      case uc4 => intro w hSw; go_simp
      simp only [Act.put, zp]
      refine wpAnyH_take (i := 5) (v := .string h.s) rfl (by kernel_rfl) (by kernel_rfl) (by kernel_rfl) (fun _ _ _ h => h) (Or.inl ⟨by rfl, ?uc5⟩) hHeld ?_
      case uc5 => intro w hSw; have h2 := hSw.2; go_simp
      simp only [Act.put, zp]
      refine wpAnyH_ready (rs := [6]) (by kernel_rfl) (by simp) ?_
      refine AllReadyH.cons rfl (fun K hK => ?_) AllReadyH.nil
      rw [if_pos (by rfl)]
      simp only [zq]
      go_wp2_with fail
      refine (spec_ArrAt ts HB.out.t h.s va vb HVB.out _ (Rd.p.later Rd.low)).mono ?_
      rintro e w3 ⟨rfl, hb3⟩
      rw [HK.out]
      go_wp2_with fail
      refine hK.out _ _ (⟨rangeAt_later hHeld.1 hb3, keeps hb3 hHeld.2⟩) (fun hHeld => ?_)
      have R3 := hid (Rd.later hb3)
      have B3 := hid (B2.out.trans ((bd.trans (hb3.mono bd.size)).mono B2.out.size))
      clear Rd cS bd hb3
      refine wpAnyH_take (i := 7) (v := .int .i64 kk) rfl (by kernel_rfl) (by kernel_rfl) (by kernel_rfl) (fun _ _ _ h => h) (Or.inl ⟨by rfl, ?ucz7⟩) hHeld ?_
      case ucz7 => intro w hSw; go_simp
      simp only [Act.put, zp]
      refine wpAnyH_done (by kernel_rfl) ?_ _
      clear hHeld hK
      rcases HKB.out with hkn | ⟨hk0, hk1⟩
      · have hlt : kk < 0 := by omega
        have hs1 : Hid (simple ts ns bs h st = (1, st)) := HS1.out.1 (by rw [inA, HK.out, if_pos hlt])
        have T := hid (R3.out.end_ 1)
        obtain ⟨_, _, _, _, c6, _, _, fz⟩ := R3.out.cells
        have f6 := fz 6
        clear fz
        clear hkn
        go_wp2
        refine bodyPost_ret (results_none rfl _ _ _) rfl ?_
        exact ⟨rfl, rs, so, bv, (by rw [hs1.out]; exact T.out.1), (KQ.of B3.out).trans T.out.2, by show w.heap.size ≤ (w3.setCell ⟨R, 6, Option.none⟩ (.int .i64 1)).heap.size; rw [World.size_setCell]; exact B3.out.size⟩
      · obtain ⟨k, rfl⟩ : ∃ k : Nat, kk = (k : Int) := ⟨kk.toNat, by omega⟩
        have hkA : k < st.A.length := by have := HAL.out; omega
        obtain ⟨xs, hxs⟩ : ∃ xs, st.A[k]? = some xs := ⟨st.A[k]'hkA, List.getElem?_eq_getElem _⟩
        have hkr : k < rs.length := by have h2 := congrArg List.length R3.out.a; simp at h2; omega
        have hkl : (k : Int) < (rs.length : Int) := by omega
        obtain ⟨d2, d3, _⟩ := R3.out.cells
        obtain ⟨g, off, u1, hsa, A0, hu1⟩ := R3.out.sto.a.at hxs
        subst hsa
        have hxl := HB.out.b xs (List.mem_of_getElem? hxs)
        have hxI : (xs.length : Int) ≤ 1048576 := by omega
        have hAI : (st.A.length : Int) ≤ 1048576 := by have := HB.out.a; omega
        have HU1 := hid hu1
        obtain ⟨pa, qa, rfl⟩ := hu1.shape
        by_cases hp : 0 ≤ p ∧ p ≤ (xs.length : Int) - 1
        · have D2 := hid (decT hp)
          obtain ⟨m, rfl⟩ : ∃ m : Nat, p = (m : Int) := ⟨p.toNat, by omega⟩
          obtain ⟨z, hz⟩ : ∃ z, xs[m]? = some z := ⟨xs[m]'(by omega), List.getElem?_eq_getElem _⟩
          obtain ⟨g2, off2, hpa, Z0⟩ := HU1.out.at hz
          subst hpa
          have hml : (m : Int) < (xs.length : Int) := by omega
          have hin : inA ts st.A h.s (m : Int) = some z := by rw [inA, HK.out, if_neg (by omega), if_neg (by omega), Int.toNat_natCast, Int.toNat_natCast, hxs]; exact hz
          have hs1 := hid (HS1.out.2 z hin)
          obtain ⟨r, hrk, hr1⟩ := rowAtQ R3.out rfl A0 (by have h2 := congrArg List.length R3.out.a; simp at h2; omega)
          have hrow := rowShapeQ R3.out hrk hr1
          have FX : w3.frozen? ⟨g2, off2 + m, Option.none⟩ = false := rowFreeQ R3.out hrk hr1 _
          have HRK := hid (And.intro hrk (And.intro hr1 hrow))
          clear hxs hu1 hz hp hrk hr1 hrow hin
          go_wp2_with fail
          refine (l1In_is (m : Int) 0 ((xs.length : Int) - 1) _).mono ?_
          rintro e w9 ⟨rfl, rfl⟩
          rw [D2.out]
          go_wp2
          go_end0
          obtain ⟨hrk, hr1, rfl, hlen⟩ := HRK.out
          have T := R3.out.put (k := k) (m := m) (n := n) (g := g2) (c := qa) (xs := r.2) (by rw [hrk]; congr 1; exact Prod.ext (by rw [hr1, hlen]) rfl)
          have eA : putA ts st.A h.s (m : Int) n = st.A.modify k fun ys => ys.set m n := by rw [putA, HK.out]; rfl
          rw [Nat.zero_add]
          refine ⟨rfl, _, _, _, (by rw [hs1.out]; show QS w0 _ R ts ns _ { st with A := putA ts st.A h.s (m : Int) n } 0 bs _ _ _ _ _ _ _; rw [eA]; exact T.1), (KQ.of B3.out).trans T.2, by rw [World.size_setCell]; exact B3.out.size⟩
        · have D2 := hid (decF hp)
          have hin : inA ts st.A h.s p = none := by
            rw [inA, HK.out, if_neg (by omega)]
            split
            · rfl
            · rw [Int.toNat_natCast, hxs]; exact List.getElem?_eq_none (by omega)
          have hs1 := hid (HS1.out.1 hin)
          have T := hid (R3.out.end_ 1)
          obtain ⟨_, _, _, _, c6, _, _, fz⟩ := R3.out.cells
          have f6 := fz 6
          clear fz hxs hu1 hp hin
          go_wp2_with fail
          refine (l1In_is p 0 ((xs.length : Int) - 1) _).mono ?_
          rintro e w9 ⟨rfl, rfl⟩
          rw [D2.out]
          go_wp2
          refine bodyPost_ret (results_none rfl _ _ _) rfl ?_
          exact ⟨rfl, rs, so, bv, (by rw [hs1.out]; exact T.out.1), (KQ.of B3.out).trans T.out.2, by rw [World.size_setCell]; exact B3.out.size⟩
theorem acells_app : ∀ (a b : List AR), acells (a ++ b) = acells a ++ acells b
  | [], _ => rfl
  | x :: a, b => by
    have h := acells_app a b
    simp only [List.cons_append, acells, h]
theorem acells_one : ∀ (bs : List AR), ∀ u ∈ acells bs, u.oneCell' = true
  | [], u, h => by simp [acells] at h
  | b :: bs, u, h => by
    rw [acells] at h
    rcases List.mem_cons.1 h with rfl | h
    · rfl
    · rcases List.mem_cons.1 h with rfl | h
      · rfl
      · exact acells_one bs u h
def SrcB (w : World) (ao : Option Addr) (bs : List AR) : Prop := (ao = Option.none ∧ bs = []) ∨ ∃ g, ao = some ⟨g, 0, Option.none⟩ ∧ ∀ (j : Nat) (u : Value), (acells bs)[j]? = some u → w.cell? ⟨g, j, Option.none⟩ = some u
theorem SrcB.later {w w' : World} {ao : Option Addr} {bs : List AR} (h : SrcB w ao bs) (hb : Below w.heap.size w w') : SrcB w' ao bs := by
  rcases h with h | ⟨g, h1, h2⟩
  · exact .inl h
  · exact .inr ⟨g, h1, fun j u hj => keeps hb (h2 j u hj)⟩
theorem bindSrc {w : World} {B : Nat} {bv : Value} {bs ex : List AR} (h : w.ownsRow B 85 2 bv (bs ++ ex).length (acells (bs ++ ex))) :
    ∃ ao len cap, bv = .slice ao len cap ∧ SrcB w ao bs ∧ (ao = Option.none → cap = 0) ∧ ∀ w' : World, (Instr.slice 40 (.slice ao len cap) Option.none (some (.int .i64 (bs.length : Int))) Option.none).run Tryz.prog w' = .ok (.slice ao bs.length cap) w' := by
  rcases h.2 with ⟨e1, e0⟩ | ⟨g, cap, cur, e1, e2, e3, e4, _⟩
  · have hbs : bs = [] := by
      cases bs with
      | nil => rfl
      | cons _ _ => simp at e0
    subst hbs
    exact ⟨Option.none, 0, 0, e1, .inl ⟨rfl, rfl⟩, fun _ => rfl, fun w' => by kernel_rfl⟩
  · subst e1
    have hle : bs.length ≤ cap := by simp at e4; omega
    refine ⟨_, _, cap, rfl, .inr ⟨g, rfl, fun j u hu => own_cell h (by rw [acells_app, List.getElem?_append_left ((List.getElem?_eq_some_iff.1 hu).1)]; exact hu)⟩, fun e => (by cases e), fun w' => ?_⟩
    have hu : Tryz.prog.underlying 40 = some (.slice (Tryz.prog.elem 40)) := by kernel_rfl
    rw [run_slice_h w' 40 _ _ cap hu .i64 (bs.length : Int) (by omega) (by omega)]
    have e5 : ((bs.length : Int)).toNat = bs.length := by omega
    have hs : (sizeOf (Tryz.prog.elem 40)).run Tryz.prog w' = .ok 2 w' := by kernel_rfl
    rw [hs]
    simp [Result.andThen, sliced, Addr.add]
theorem infoBd : (Tryz.prog.info? 85).map (fun i => (i.zero, i.size, i.bytes)) = some (some (.agg #[.string ⟨#[]⟩, .int .i64 0]), 2, 24) := by kernel_rfl
theorem appB {w : World} {B : Nat} {v : Value} {n : Nat} {xs : List Value} {ao : Option Addr} {bs : List AR} {cap : Nat} (hown : w.ownsRow B 85 2 v n xs) (hB : B ≤ w.heap.size) (hs : SrcB w ao bs) (hc : ao = Option.none → cap = 0) (hn : n + bs.length ≤ 1000000) (ty : TypeId) :
    ∃ v' w', (Builtin.append_ #[40, 40] ty #[v, .slice ao bs.length cap]).run Tryz.prog w = .ok v' w' ∧ w'.ownsRow B 85 2 v' (n + bs.length) (xs ++ acells bs) ∧ w.grownBy w' v.ownBlock ∧ ∀ g, v'.ownBlock = some g → v.ownBlock = some g ∨ g = w.heap.size := by
  obtain ⟨i0, hi, hz0, hz1, hz2⟩ := info_parts infoBd
  rcases hs with ⟨rfl, rfl⟩ | ⟨g, rfl, hg⟩
  · obtain rfl := hc rfl
    refine ⟨v, w, run_append_owned_none (P := Tryz.prog) (w := w) B 40 ty 85 i0 2 Tryz.underlying40 hi v n xs hown, by simpa [acells] using hown, World.grownBy.refl _ _, fun g h => .inl h⟩
  · obtain ⟨v', w', h1, h2, h3, _, h5⟩ := run_append_own_at (P := Tryz.prog) w B 40 ty 85 i0 _ 2 24 Tryz.underlying40 hi hz0 hz1 hz2 rfl (by decide) v n xs hown ⟨g, 0, Option.none⟩ bs.length cap (acells bs) (acells_len bs) (fun j u hj => by
        have e : (⟨g, 0, Option.none⟩ : Addr).add j = ⟨g, j, Option.none⟩ := by simp [Addr.add]; omega
        rw [e]; exact hg j u hj) (acells_one bs) (by unfold maxLen; omega) (by omega) hB
    refine ⟨v', w', h1, h2, h3, fun g' hg' => ?_⟩
    rcases h5 with h5 | h5
    · exact .inl (by rw [← h5]; exact hg')
    · rw [hg'] at h5; injection h5 with h5; exact .inr h5
section
variable {P : Program} {w w' : World}
theorem wp_appB {o : Oper} {a : Act} {K : Act → World → Prop} {Q : Exit → Act → World → Prop} (s x : Operand) (t : TypeId) (v sx v' : Value) (ho : o.op = .call { callee := .builtin .append, args := #[s, x], argTypes := #[t, t] })
    (hs : a.eval s = v) (hx : a.eval x = sx) (hrun : (Builtin.append_ #[t, t] o.type #[v, sx]).run P w = .ok v' w') (h : K (a.put o.dst v') w') : o.wp P a w K Q := by
  unfold Oper.wp execOp
  simp only [ho, resolve, invoke, builtin, Sem.run_bind, Sem.run_pure, Result.andThen_ok, List.map_toArray, List.map_cons, List.map_nil, hs, hx, hrun]
  exact h
theorem wpList_appB {ops : Array Oper} {rest : List Oper} {o : Oper} {a : Act} {Q : Exit → Act → World → Prop} (hgd : o.guard = none) (s x : Operand) (t : TypeId) (v sx v' : Value) (ho : o.op = .call { callee := .builtin .append, args := #[s, x], argTypes := #[t, t] })
    (hs : a.eval s = v) (hx : a.eval x = sx) (hrun : (Builtin.append_ #[t, t] o.type #[v, sx]).run P w = .ok v' w') (h : wpList P ops Q rest (a.put o.dst v') w') : wpList P ops Q (o :: rest) a w :=
  wpList_plain hgd fun _ hK => wp_appB s x t v sx v' ho hs hx hrun (hK _ _ h)
end
theorem own_new0 (w : World) {B : Nat} (hB : B ≤ w.heap.size) (t : TypeId) (sz : Nat) : (w.alloc (.cells #[] t)).ownsRow B t sz (.slice (some ⟨w.heap.size, 0, Option.none⟩) 0 0) 0 [] :=
  ⟨by simp, .inr ⟨w.heap.size, 0, #[], rfl, hB, blkLast w _, by omega, by simp [maxLen], by simp, by simp⟩⟩
end Go.Proofs.YtfoghiminlbdaaaGreat
namespace Go.Proofs.YtfoghiminlbdaaaGreat
open Go.RowKit
set_option linter.unusedSimpArgs false
set_option linter.unusedVariables false
section
variable {P : Program} {ops : Array Oper} {Q : Exit → Act → World → Prop} {md : Region.Mode} {S : World → Prop} {last : Nat}
def wpAnyL (P : Program) (md : Region.Mode) (ops : Array Oper) (Q : Exit → Act → World → Prop) (S : World → Prop) (last : Nat) : Nat → Array Bool → Act → World → Prop
  | 0, listed, a, w => Region.ready md ops listed = [] ∧ Q .normal a w
  | fuel + 1, listed, a, w => (Region.ready md ops listed = [] → Q .normal a w) ∧ ∀ j ∈ Region.ready md ops listed, wpOp P ops Q j (fun a' w' => (j ≠ last → S w') ∧ wpAnyL P md ops Q S last fuel (listed.setIfInBounds j true) a' w') a w
theorem wpAny_ofL : ∀ (fuel : Nat) (listed : Array Bool) (a : Act) (w : World), wpAnyL P md ops Q S last fuel listed a w → wpAny P md ops Q fuel listed a w
  | 0, _, _, _, h => h
  | fuel + 1, _, _, _, h => ⟨h.1, fun j hj => wpOp_mono (fun a' w' h' => wpAny_ofL fuel _ a' w' h'.2) (h.2 j hj)⟩
def descs (md : Region.Mode) (ops : Array Oper) (i : Nat) : List Nat :=
  (List.range ops.size).foldl (fun c k => if k = i then k :: c else match ops[k]? with | some o => if o.after.toList.any (fun e => Region.binds md e && c.contains e.on) then k :: c else c | none => c) []
def chnOk (md : Region.Mode) (ops : Array Oper) (listed : Array Bool) (last i : Nat) (ch : List Nat) : Bool :=
  ch.contains last && !(decide (i = last)) && ch.all fun c => !(listed.getD c true) && (decide (c = i) || match ops[c]? with | some o => o.after.toList.any (fun e => Region.binds md e && ch.contains e.on) | none => false)
structure Chn (md : Region.Mode) (ops : Array Oper) (listed : Array Bool) (last i : Nat) (ch : List Nat) : Prop where
  mem : last ∈ ch
  ne : i ≠ last
  un : ∀ c ∈ ch, listed.getD c true = false
  on : ∀ c ∈ ch, c = i ∨ ∃ o, ops[c]? = some o ∧ ∃ e ∈ o.after, Region.binds md e = true ∧ e.on ∈ ch
theorem Chn.of {listed : Array Bool} {i : Nat} {ch : List Nat} (h : chnOk md ops listed last i ch = true) : Chn md ops listed last i ch := by
  unfold chnOk at h
  simp only [Bool.and_eq_true, List.all_eq_true, Bool.not_eq_true', decide_eq_false_iff_not, Bool.or_eq_true, decide_eq_true_eq] at h
  refine ⟨by simpa using h.1.1, h.1.2, fun c hc => (h.2 c hc).1, fun c hc => ?_⟩
  rcases (h.2 c hc).2 with e | e
  · exact .inl e
  · right
    split at e
    · rename_i o ho
      rw [List.any_eq_true] at e
      obtain ⟨x, hx, e1⟩ := e
      simp only [Bool.and_eq_true] at e1
      exact ⟨o, ho, x, by simpa using hx, e1.1, by simpa using e1.2⟩
    · cases e
theorem Chn.off {listed : Array Bool} {i j : Nat} {ch : List Nat} (h : Chn md ops listed last i ch) (hj : j ∈ Region.ready md ops listed) (hne : j ≠ i) : j ∉ ch := by
  intro hc
  rcases h.on j hc with e | ⟨o, ho, e, he, hb, hp⟩
  · exact hne e
  · obtain ⟨_, o', ho', hw⟩ := mem_ready.1 hj
    rw [ho] at ho'
    cases ho'
    have hd := hw e he hb
    have hu := h.un _ hp
    by_cases hlt : e.on < listed.size
    · rw [Array.getD_eq_getD_getElem?, Array.getElem?_eq_getElem hlt, Option.getD_some] at hd hu
      rw [hd] at hu
      cases hu
    · rw [Array.getD_eq_getD_getElem?, Array.getElem?_eq_none (by omega)] at hd
      cases hd
theorem Chn.more {listed : Array Bool} {i j : Nat} {ch : List Nat} (h : Chn md ops listed last i ch) (hj : j ∉ ch) : Chn md ops (listed.setIfInBounds j true) last i ch :=
  ⟨h.mem, h.ne, fun c hc => by rw [getD_set_ne true (fun e => hj (by rw [e]; exact hc))]; exact h.un c hc, h.on⟩
theorem wpAnyL_until {i : Nat} {oi : Oper} {v : Value} {ch : List Nat} (hi : ops[i]? = some oi) (hsel : ∀ (j : Nat) (o : Oper) cs b, ops[j]? = some o → o.op ≠ .select cs b)
    (hQ : ∀ c a w, Q (.panic c) (a.put oi.dst v) w → Q (.panic c) a w) : ∀ (fuel : Nat) (listed : Array Bool) (a : Act) (w : World), Chn md ops listed last i ch → Aside md ops i oi listed → i ∈ Region.ready md ops listed → YieldsIf P ops S oi v a → S w →
      wpAnyL P md ops Q S last fuel (listed.setIfInBounds i true) (a.put oi.dst v) w → wpAnyL P md ops Q S last (fuel + 1) listed a w
  | 0, listed, a, w, hC, _, hr, hy, hS, H => by
    refine ⟨fun h => (by rw [h] at hr; cases hr), fun j hj => ?_⟩
    rcases Nat.decEq j i with hne | he
    · have h1 := ready_mono hj hne
      rw [H.1] at h1
      cases h1
    · rw [he]; exact hy.wpOp hi hS ⟨fun _ => hS, H⟩
  | fuel + 1, listed, a, w, hC, hA, hr, hy, hS, H => by
    refine ⟨fun h => (by rw [h] at hr; cases hr), fun j hj => ?_⟩
    rcases Nat.decEq j i with hne | he
    · obtain ⟨hju, oj, hoj, _⟩ := mem_ready.1 hj
      have hno := up_free hj hr hoj
      have hoff := hC.off hj hne
      have hjl : j ≠ last := fun e => hoff (by rw [e]; exact hC.mem)
      refine wpOp_mono (fun a' w' h => ⟨fun _ => h.2.1 hjl, wpAnyL_until hi hsel hQ fuel (listed.setIfInBounds j true) a' w' (hC.more hoff) (hA.more hju) (ready_mono hr (Ne.symm hne)) h.1 (h.2.1 hjl) ?_⟩) (wpOp_putIf hoj (hA j oj hoj hne hju hno) (fun cs b => hsel i oi cs b hi) (fun cs b => hsel j oj cs b hoj) hQ hy (H.2 j (ready_mono hj hne)))
      rw [Array.setIfInBounds_comm _ _ hne]
      exact h.2.2
    · rw [he]; exact hy.wpOp hi hS ⟨fun _ => hS, H⟩
theorem wpAnyL_take {i : Nat} {oi : Oper} {v : Value} {fuel : Nat} {listed : Array Bool} {a : Act} {w : World} (hi : ops[i]? = some oi)
    (hs : Region.noSelect ops = true) (hf : Region.free md ops listed i = true) (hr : (Region.ready md ops listed).contains i = true) (hc : chnOk md ops listed last i (descs md ops i) = true)
    (hQ : ∀ c a w, Q (.panic c) (a.put oi.dst v) w → Q (.panic c) a w) (hy : YieldsIf P ops S oi v a) (hS : S w)
    (h : wpAnyL P md ops Q S last fuel (listed.setIfInBounds i true) (a.put oi.dst v) w) : wpAnyL P md ops Q S last (fuel + 1) listed a w :=
  wpAnyL_until hi (Region.noSelect_spec hs) hQ fuel listed a w (Chn.of hc) (Region.free_spec hi hf) (by simpa using hr) hy hS h
def AllReadyL (P : Program) (md : Region.Mode) (ops : Array Oper) (Q : Exit → Act → World → Prop) (S : World → Prop) (last : Nat) (fuel : Nat) (listed : Array Bool) (a : Act) (w : World) (rs : List Nat) : Prop :=
  ∀ j ∈ rs, wpOp P ops Q j (fun a' w' => (j ≠ last → S w') ∧ wpAnyL P md ops Q S last fuel (listed.setIfInBounds j true) a' w') a w
theorem AllReadyL.nil {fuel : Nat} {listed : Array Bool} {a : Act} {w : World} : AllReadyL P md ops Q S last fuel listed a w [] := fun _ h => by cases h
theorem AllReadyL.cons {fuel : Nat} {listed : Array Bool} {a : Act} {w : World} {j : Nat} {o : Oper} {rs : List Nat} (ho : ops[j]? = some o)
    (h : ∀ K' : Act → World → Prop, Shut (∀ a w, (j ≠ last → S w) → wpAnyL P md ops Q S last fuel (listed.setIfInBounds j true) a w → K' a w) → if Region.wanted o (yielded ops a.tmps) = true then Oper.wp P o a w K' Q else K' (a.put o.dst undef) w)
    (hs : AllReadyL P md ops Q S last fuel listed a w rs) : AllReadyL P md ops Q S last fuel listed a w (j :: rs) := fun k hk => by
  rcases List.mem_cons.1 hk with rfl | hk
  · exact wpOp_step ho (fun K' hK => h K' (fun a w hS hW => hK a w ⟨hS, hW⟩))
  · exact hs k hk
theorem wpAnyL_ready {rs : List Nat} {fuel : Nat} {listed : Array Bool} {a : Act} {w : World} (hr : Region.ready md ops listed = rs) (hne : rs ≠ [])
    (h : AllReadyL P md ops Q S last fuel listed a w rs) : wpAnyL P md ops Q S last (fuel + 1) listed a w := ⟨fun h0 => absurd (hr ▸ h0) hne, hr ▸ h⟩
theorem wpAnyL_done {listed : Array Bool} {a : Act} {w : World} (hr : Region.ready md ops listed = []) (h : Q .normal a w) :
    ∀ fuel, wpAnyL P md ops Q S last fuel listed a w
  | 0 => ⟨hr, h⟩
  | _ + 1 => ⟨fun _ => h, by rw [hr]; simp⟩
theorem wp_region_last (S : World → Prop) (last : Nat) {id : Nat} {a : Act} {w : World} (hm : P.follows .mixedOrders = true) (h : wpAnyL P .any ops Q S last ops.size (Array.replicate ops.size false) a w.drew) : (Code.region id ops true).wp P Q a w := wp_region_any hm (wpAny_ofL _ _ _ _ h)
end
end Go.Proofs.YtfoghiminlbdaaaGreat
