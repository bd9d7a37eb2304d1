import Derived.Test.YtpinockfakndlaaGreatZp
import Derived.Test.YtpinockfakndlaaGreatP32ofFnEvals
import Derived.Test.YtpinockfakndlaaGreatP07ofFnEvals
import Derived.Test.YtpinockfakndlaaGreatP30ofFnEvals
import Derived.Deep.QuietTactic
import Derived.BigQuiet
namespace Go.Proofs.YtpinockfakndlaaGreat
open Go.RowKit Go.Lib
set_option maxRecDepth 100000
set_option maxHeartbeats 8000000
set_option linter.unusedSimpArgs false
set_option linter.unusedVariables false
theorem wr_setsAt (n o : Nat) (vs : List Value) (w : World) : Wr n w (w.setCells n o vs) :=
  ⟨World.os_setCells _ _ _ _, (below_sets vs o (Below.refl n w) (Nat.le_refl _)).tape, World.output_setCells _ _ _ _, by rw [size_sets]; exact Nat.le_refl _, fun k hk hne => World.heap_setCells_other _ _ _ _ hk hne⟩
def DrawnSt (B : Nat) (a : Option Addr) (len cap b rn vn : Nat) (w : World) (e : Ending) (w' : World) : Prop :=
  ∃ (ua v : Value) (rs : List VR) (V : List Int), e = .returned (.agg #[ua, v, .slice Option.none 0 0, .int .i64 0]) ∧ StoO w' w.heap.size ua rs (v, V) (.slice Option.none 0 0, []) ∧ rs.length = rn ∧ (∀ r ∈ rs, r.2.length ≤ 16) ∧ V.length = vn ∧ Dw B a len cap b w' ∧ Wr b w w'
theorem l7Sto_is (B : Nat) (a : Option Addr) (len cap b : Nat) (ts : List AR) (F : SF) (n : Nat) (hn : n ≤ 1000000) (hl : ts.length ≤ 1048576) (va vb : Value) (w : World) (hdw : Dw B a len cap b w) (ha : AV w 0 va ts) (hb : SV w 0 F vb)
    (hV : ∀ w v, SV w 0 F v → Calls Tryz.prog 35 #[v] w fun e w' => ∃ a c, e = .returned (.slice a n c) ∧ Below w.heap.size w w') :
    Calls Tryz.prog 31 #[.pointer (some ⟨b, 0, none⟩), .agg #[va, vb]] w (DrawnSt B a len cap b ts.length n w) := by
  obtain ⟨a1, c1, rfl⟩ := ha.shape
  obtain ⟨a2, c2, rfl⟩ := hb.shape
  have hbN := hdw.cur.lt
  have hbB := hdw.hB
  have b0 := (aB w (.cells #[.slice a1 ts.length c1, .slice a2 (slen F) c2] 27)).alloc (by simp) (.cells #[nilS, nilS, nilS, .int .i64 0] 33)
  have hs0 : ((w.alloc (.cells #[.slice a1 ts.length c1, .slice a2 (slen F) c2] 27)).alloc (.cells #[nilS, nilS, nilS, .int .i64 0] 33)).heap.size = w.heap.size + 2 := by simp
  have hs1 : (w.alloc (.cells #[.slice a1 ts.length c1, .slice a2 (slen F) c2] 27)).heap.size = w.heap.size + 1 := by simp
  have T0 := hid (thSto4 (w.alloc (.cells #[.slice a1 ts.length c1, .slice a2 (slen F) c2] 27)) nilS nilS nilS (.int .i64 0) 33)
  rw [hs1] at T0
  have K0 := ((aB (w.alloc (.cells #[.slice a1 ts.length c1, .slice a2 (slen F) c2] 27)) (.cells #[nilS, nilS, nilS, .int .i64 0] 33)).block _ (lt_heap (blkLast w (.cells #[.slice a1 ts.length c1, .slice a2 (slen F) c2] 27)))).trans (blkLast w (.cells #[.slice a1 ts.length c1, .slice a2 (slen F) c2] 27))
  have R0 := hid (blk_range K0)
  have A0 := hid (And.intro (ha.later b0) (hb.later b0))
  have HD := hid (hdw.later b0)
  have HB0 := hid b0
  have HV := hid hV
  have CL := hid (spec_StoNew ts F n (by omega) hl _ _ _ A0.out.1 A0.out.2 hV)
  clear hdw ha hb hV b0 K0 A0 HV hs1
  go_enter Tryz.func31, Tryz.ntmps31
  go_wp2_with (refine wpList_load_mid rfl 27 _ rfl w.heap.size 0 rfl _ _ R0.out Tryz.underlying27 rfl sizePg ?_)
  refine CL.out.mono ?_
  rintro e w3 ⟨ua, v, rs, rfl, hz, hso, hb3⟩
  rw [hs0] at hso hb3
  obtain ⟨a3, c3, rfl⟩ := iownShape hso.out
  obtain ⟨a4, c4, hv⟩ := iownShape (hso.own.own (v, List.replicate n 0) (by simp))
  simp only at hv
  rw [List.length_replicate] at hv
  subst hv
  have hsz3 : w.heap.size + 2 ≤ w3.heap.size := by have h := hb3.size; rw [hs0] at h; exact h
  have T3 := hid (there_later T0.out (hb3.mono (by rw [hs0]; exact Nat.le_refl _)))
  have HB3 := hid (HB0.out.trans (hb3.mono (by omega)))
  have D3 := hid (HD.out.later (hb3.mono (by rw [hs0]; exact Nat.le_refl _)))
  have SO3 := hid hso
  have HZ := hid hz
  clear hb3 hso hz T0 R0 HD HB0 CL
  obtain ⟨hs, hhs⟩ : ∃ hs, Hid (rs.map (fun r => (r.1, r.2.length)) = hs) := ⟨_, rfl⟩
  have hrl : rs.length = hs.length := by rw [← hhs.out, List.length_map]
  have hrt : Hid (hs.length = ts.length) := by show _ = _; rw [← hrl]; have := congrArg List.length HZ.out; simpa [zrows] using this
  have h16 : Hid (∀ p ∈ hs, p.2 ≤ 16) := by
    intro p hp
    rw [← hhs.out] at hp
    obtain ⟨r, hr, rfl⟩ := List.mem_map.1 hp
    have h1 : r.2 ∈ rs.map (·.2) := List.mem_map.2 ⟨r, hr, rfl⟩
    rw [HZ.out] at h1
    unfold zrows at h1
    obtain ⟨t, _, ht⟩ := List.mem_map.1 h1
    rw [← ht]
    exact nz_len _
  have hal : Hid (hs.length ≤ 1048576) := by show _ ≤ _; rw [hrt.out]; exact hl
  rw [hrl] at SO3 ⊢
  go_wp2_with (refine sA rfl 33 _ _ rfl w3.heap.size 0 #[.slice a3 hs.length c3, .slice a4 n c4, .slice Option.none 0 0, .int .i64 0] rfl rfl ?ht0 sizeSto ?ho0 ?_; exact (thSto4 _ _ _ _ _ _); exact (one4 rfl rfl rfl rfl); intro W hW; have HW := hid (newSto4 hW); clear hW)
  obtain ⟨N, hN⟩ : ∃ N, N = w3.heap.size := ⟨_, rfl⟩
  have Q0 : Hid (QW B a len cap b (w.heap.size + 2) N (.slice a3 hs.length c3) hs (.slice a4 n c4) n w W rs (List.replicate n 0)) := by
    rw [hN]
    exact ⟨HW.out.1, SO3.out.later HW.out.2, hhs.out, by rw [List.length_replicate], D3.out.later HW.out.2, (Wr.of_below (HB3.out.trans (HW.out.2.mono (by omega)))), ⟨hbN, by omega, hsz3⟩⟩
  have T4 := hid (there_later T3.out HW.out.2)
  have hNb : Hid (b < w.heap.size ∧ w.heap.size + 1 < N) := ⟨hbN, by omega⟩
  rw [← hN]
  clear HW T3 HB3 D3 SO3 HZ hhs hrl hs0 hsz3 hN
  go_loopw [6] (fun i wr => ∃ (k : Nat) (r : List VR) (V : List Int), k ≤ hs.length ∧ i = .int .i64 (k : Int) ∧ Hid (QW B a len cap b (w.heap.size + 2) N (.slice a3 hs.length c3) hs (.slice a4 n c4) n w wr r V ∧ wr.there (w.heap.size + 1) 0 4)) (fun i _ => hs.length - (RowKit.intOf i).toNat)
  case atStart => exact ⟨0, rs, List.replicate n 0, by omega, rfl, ⟨Q0.out, T4.out⟩⟩
  case round =>
    obtain ⟨k, r, V, hk, rfl, hin⟩ := hrel
    have hkl : hs.length ≤ 1048576 := hal.out
    obtain ⟨q0, q1⟩ := hin.out.1.cells
    clear Q0 T4
    by_cases hlt : k < hs.length
    · have hltI : (k : Int) < (hs.length : Int) := by omega
      obtain ⟨u, hu⟩ : ∃ u, hs[k]? = some u := ⟨hs[k], List.getElem?_eq_getElem hlt⟩
      obtain ⟨uh, ln⟩ := u
      have hln : ln ≤ 16 := h16.out _ (List.mem_of_getElem? hu)
      have HU := hid hu
      obtain ⟨au, cu, rfl⟩ : ∃ au cu, uh = .slice au ln cu := by
        obtain ⟨xs, hx, hxl⟩ := hin.out.1.head hu
        obtain ⟨p, q, e⟩ := iownShape (hin.out.1.sto.own.own _ (List.mem_append_left _ (List.mem_of_getElem? hx)))
        exact ⟨p, q, by rw [← hxl]; exact e⟩
      obtain ⟨go, rfl⟩ : ∃ go, a3 = some ⟨go, 0, Option.none⟩ := by
        have h1 := hin.out.1.sto.out
        obtain ⟨q, hq⟩ : ∃ q, r.length = q + 1 := ⟨r.length - 1, by have := congrArg List.length hin.out.1.sh; rw [List.length_map] at this; omega⟩
        rw [hq] at h1
        obtain ⟨g, cc, e, _⟩ := own_some h1
        injection e with e
        exact ⟨g, e⟩
      clear hu
      go_wp2_with fail
      obtain ⟨wo, hwo⟩ : ∃ wo : World, wo = wr := ⟨_, rfl⟩
      rw [← hwo] at hin q0 q1 ⊢
      clear hwo
      go_loopw [7] (fun i wr => ∃ (j : Nat) (r : List VR) (V : List Int), j ≤ ln ∧ i = .int .i64 (j : Int) ∧ Hid (QW B a len cap b (w.heap.size + 2) N (.slice (some ⟨go, 0, Option.none⟩) hs.length c3) hs (.slice a4 n c4) n w wr r V ∧ wr.there (w.heap.size + 1) 0 4)) (fun i _ => ln - (RowKit.intOf i).toNat)
      case atStart => exact ⟨0, r, V, by omega, rfl, hin⟩
      case round =>
        obtain ⟨j, r, V, hj, rfl, hin⟩ := hrel
        obtain ⟨q0, q1⟩ := hin.out.1.cells
        have HC : Hid (∀ W r V, QW B a len cap b (w.heap.size + 2) N (.slice (some ⟨go, 0, Option.none⟩) hs.length c3) hs (.slice a4 n c4) n w W r V → W.cell? ⟨go, k, Option.none⟩ = some (.slice au ln cu)) := by
          intro W r V h
          obtain ⟨xs, hx, _⟩ := h.head HU.out
          have h1 := h.sto.out
          have hrl : r.length = hs.length := by rw [← h.sh, List.length_map]
          rw [hrl] at h1
          exact own_cell h1 (j := k) (u := .slice au ln cu) (by rw [List.getElem?_map, hx]; rfl)
        have q2 := HC.out _ _ _ hin.out.1
        by_cases hjl : j < ln
        · have hjI : (j : Int) < (ln : Int) := by omega
          have hlnI : (ln : Int) ≤ 16 := by omega
          obtain ⟨gu, rfl⟩ : ∃ gu, au = some ⟨gu, 0, Option.none⟩ := by
            obtain ⟨xs, hx, hxl⟩ := hin.out.1.head HU.out
            have h1 := hin.out.1.sto.own.own _ (List.mem_append_left _ (List.mem_of_getElem? hx))
            obtain ⟨q, hq⟩ : ∃ q, xs.length = q + 1 := ⟨xs.length - 1, by omega⟩
            simp only [hq] at h1
            obtain ⟨g, cc, e, _⟩ := own_some h1
            injection e with e
            exact ⟨g, e⟩
          go_wp2_with fail
          have bd : Below wr.heap.size wr wr.drew := (Below.refl _ wr).drew
          have Qd := hid (And.intro (hin.out.1.later bd) (there_later hin.out.2 bd))
          have hS : wr.drew.cell? ⟨N, 0, Option.none⟩ = some (.slice (some ⟨go, 0, Option.none⟩) hs.length c3) ∧ wr.drew.cell? ⟨go, k, Option.none⟩ = some (.slice (some ⟨gu, 0, Option.none⟩) ln cu) := ⟨Qd.out.1.cells.1, HC.out _ _ _ Qd.out.1⟩
          clear bd q0 q1 q2 hin
          obtain ⟨W4, hW4⟩ : ∃ W4, wr.drew = W4 := ⟨_, rfl⟩
          refine wp_region_last (fun w' => w'.cell? ⟨N, 0, Option.none⟩ = some (.slice (some ⟨go, 0, Option.none⟩) hs.length c3) ∧ w'.cell? ⟨go, k, Option.none⟩ = some (.slice (some ⟨gu, 0, Option.none⟩) ln cu)) 9 (by kernel_rfl) ?_
          rw [hW4] at Qd hS ⊢
          clear hW4
          refine wpAnyL_take (i := 0) (v := .pointer (some ⟨N, 0, Option.none⟩)) rfl (by kernel_rfl) (by kernel_rfl) (by kernel_rfl) (by kernel_rfl) (fun _ _ _ => id) (Or.inl ⟨by rfl, ?sa0⟩) hS ?_
          case sa0 => intro w hSw; go_simp
          simp only [Act.put, zp]
          refine wpAnyL_take (i := 1) (v := .slice (some ⟨go, 0, Option.none⟩) hs.length c3) rfl (by kernel_rfl) (by kernel_rfl) (by kernel_rfl) (by kernel_rfl) (fun _ _ _ => id) (Or.inl ⟨by rfl, ?sa1⟩) hS ?_
          case sa1 => intro w hSw; have h1 := hSw.1; go_simp
          simp only [Act.put, zp]
          refine wpAnyL_take (i := 2) (v := .int .i64 (k : Int)) rfl (by kernel_rfl) (by kernel_rfl) (by kernel_rfl) (by kernel_rfl) (fun _ _ _ => id) (Or.inl ⟨by rfl, ?sa2⟩) hS ?_
          case sa2 => intro w hSw; go_simp
          simp only [Act.put, zp]
          refine wpAnyL_take (i := 3) (v := .pointer (some ⟨go, k, Option.none⟩)) rfl (by kernel_rfl) (by kernel_rfl) (by kernel_rfl) (by kernel_rfl) (fun _ _ _ => id) (Or.inl ⟨by rfl, ?sa3⟩) hS ?_
          case sa3 => intro w hSw; go_simp
          simp only [Act.put, zp]
          refine wpAnyL_take (i := 4) (v := .slice (some ⟨gu, 0, Option.none⟩) ln cu) rfl (by kernel_rfl) (by kernel_rfl) (by kernel_rfl) (by kernel_rfl) (fun _ _ _ => id) (Or.inl ⟨by rfl, ?sa4⟩) hS ?_
          case sa4 => intro w hSw; have h2 := hSw.2; go_simp
          simp only [Act.put, zp]
          refine wpAnyL_take (i := 5) (v := .int .i64 (j : Int)) rfl (by kernel_rfl) (by kernel_rfl) (by kernel_rfl) (by kernel_rfl) (fun _ _ _ => id) (Or.inl ⟨by rfl, ?sa5⟩) hS ?_
          case sa5 => intro w hSw; go_simp
          simp only [Act.put, zp]
          refine wpAnyL_take (i := 6) (v := .pointer (some ⟨b, 0, Option.none⟩)) rfl (by kernel_rfl) (by kernel_rfl) (by kernel_rfl) (by kernel_rfl) (fun _ _ _ => id) (Or.inl ⟨by rfl, ?sa6⟩) hS ?_
          case sa6 => intro w hSw; go_simp
          simp only [Act.put, zp]
          refine wpAnyL_ready (rs := [7]) (by kernel_rfl) (by simp) ?_
          refine AllReadyL.cons rfl (fun K hK => ?_) AllReadyL.nil
          rw [if_pos (by rfl)]
          simp only [zq]
          go_wp2_with fail
          refine (l1Below_is B a len cap b 9 _ Qd.out.1.dw (by omega)).mono ?_
          rintro e w5 ⟨x, rfl, hx, d5, wr5⟩
          have Q5 := hid (And.intro (Qd.out.1.turn wr5 d5) (there_wr Qd.out.2 wr5 (by have := hNb.out; omega)))
          clear d5 wr5 hS Qd
          have hS : w5.cell? ⟨N, 0, Option.none⟩ = some (.slice (some ⟨go, 0, Option.none⟩) hs.length c3) ∧ w5.cell? ⟨go, k, Option.none⟩ = some (.slice (some ⟨gu, 0, Option.none⟩) ln cu) := ⟨Q5.out.1.cells.1, HC.out _ _ _ Q5.out.1⟩
          refine hK.out _ _ (fun _ => hS) ?_
          clear hK
          refine wpAnyL_take (i := 8) (v := .pointer (some ⟨gu, j, Option.none⟩)) rfl (by kernel_rfl) (by kernel_rfl) (by kernel_rfl) (by kernel_rfl) (fun _ _ _ => id) (Or.inl ⟨by rfl, ?sb8⟩) hS ?_
          case sb8 => intro w hSw; go_simp
          simp only [Act.put, zp]
          obtain ⟨xs, hx2, hxl⟩ := Q5.out.1.head HU.out
          have P5 := hid (And.intro (Q5.out.1.putA (m := j) (n := x) hx2 hxl) (World.there_setCells Q5.out.2 gu j [.int .i64 x]))
          have hv0 := Q5.out.1.sto.own.own _ (List.mem_append_left _ (List.mem_of_getElem? hx2))
          simp only [hxl] at hv0
          obtain ⟨y, hy⟩ : ∃ y, (ints xs)[j]? = some y := ⟨(ints xs)[j]'(by rw [ints_len]; omega), List.getElem?_eq_getElem _⟩
          obtain ⟨d0, d1⟩ := iown_cell hv0 hy
          clear hv0 hy hS hx2
          refine wpAnyL_ready (rs := [9]) (by kernel_rfl) (by simp) ?_
          refine AllReadyL.cons rfl (fun K hK => ?_) AllReadyL.nil
          rw [if_pos (by rfl)]
          simp only [zq]
          go_wp2_with fail
          refine hK.out _ _ (fun e => absurd rfl e) ?_
          clear hK
          refine wpAnyL_done (by kernel_rfl) ?_ _
          go_wp2
          go_roundw
          case rel => exact ⟨j + 1, _, _, by omega, by go_num, P5⟩
          case measure => simp [RowKit.intOf]; omega
        · obtain rfl : j = ln := by omega
          have hlnI : (j : Int) ≤ 16 := by omega
          go_wp2
          go_roundw
          case rel => exact ⟨k + 1, _, _, by omega, by go_num, hin⟩
          case measure => simp [RowKit.intOf]; omega
    · obtain rfl : k = hs.length := by omega
      clear hk hlt
      go_wp2_with fail
      obtain ⟨wo, hwo⟩ : ∃ wo : World, wo = wr := ⟨_, rfl⟩
      rw [← hwo] at hin q0 q1 ⊢
      clear hwo
      go_loopw [8] (fun i wr => ∃ (j : Nat) (r : List VR) (V : List Int), j ≤ n ∧ i = .int .i64 (j : Int) ∧ Hid (QW B a len cap b (w.heap.size + 2) N (.slice a3 hs.length c3) hs (.slice a4 n c4) n w wr r V ∧ wr.there (w.heap.size + 1) 0 4)) (fun i _ => n - (RowKit.intOf i).toNat)
      case atStart => exact ⟨0, r, V, by omega, rfl, hin⟩
      case round =>
        obtain ⟨j, r, V, hj, rfl, hin⟩ := hrel
        obtain ⟨q0, q1⟩ := hin.out.1.cells
        by_cases hjl : j < n
        · have hjI : (j : Int) < (n : Int) := by omega
          have hlnI : (n : Int) ≤ 1000000 := by omega
          obtain ⟨gu, rfl⟩ : ∃ gu, a4 = some ⟨gu, 0, Option.none⟩ := by
            have h1 := hin.out.1.sto.own.own (.slice a4 n c4, V) (by simp)
            obtain ⟨q, hq⟩ : ∃ q, V.length = q + 1 := ⟨V.length - 1, by have := hin.out.1.vl; omega⟩
            simp only [hq] at h1
            obtain ⟨g, cc, e, _⟩ := own_some h1
            injection e with e
            exact ⟨g, e⟩
          go_wp2_with fail
          have bd : Below wr.heap.size wr wr.drew := (Below.refl _ wr).drew
          have Qd := hid (And.intro (hin.out.1.later bd) (there_later hin.out.2 bd))
          have hS : wr.drew.cell? ⟨N, 1, Option.none⟩ = some (.slice (some ⟨gu, 0, Option.none⟩) n c4) := Qd.out.1.cells.2
          clear bd q0 q1 hin
          obtain ⟨W4, hW4⟩ : ∃ W4, wr.drew = W4 := ⟨_, rfl⟩
          refine wp_region_last (fun w' => w'.cell? ⟨N, 1, Option.none⟩ = some (.slice (some ⟨gu, 0, Option.none⟩) n c4)) 6 (by kernel_rfl) ?_
          rw [hW4] at Qd hS ⊢
          clear hW4
          refine wpAnyL_take (i := 0) (v := .pointer (some ⟨N, 1, Option.none⟩)) rfl (by kernel_rfl) (by kernel_rfl) (by kernel_rfl) (by kernel_rfl) (fun _ _ _ => id) (Or.inl ⟨by rfl, ?sc0⟩) hS ?_
          case sc0 => intro w hSw; go_simp
          simp only [Act.put, zp]
          refine wpAnyL_take (i := 1) (v := .slice (some ⟨gu, 0, Option.none⟩) n c4) rfl (by kernel_rfl) (by kernel_rfl) (by kernel_rfl) (by kernel_rfl) (fun _ _ _ => id) (Or.inl ⟨by rfl, ?sc1⟩) hS ?_
          case sc1 => intro w hSw; go_simp
          simp only [Act.put, zp]
          refine wpAnyL_take (i := 2) (v := .int .i64 (j : Int)) rfl (by kernel_rfl) (by kernel_rfl) (by kernel_rfl) (by kernel_rfl) (fun _ _ _ => id) (Or.inl ⟨by rfl, ?sc2⟩) hS ?_
          case sc2 => intro w hSw; go_simp
          simp only [Act.put, zp]
          refine wpAnyL_take (i := 3) (v := .pointer (some ⟨b, 0, Option.none⟩)) rfl (by kernel_rfl) (by kernel_rfl) (by kernel_rfl) (by kernel_rfl) (fun _ _ _ => id) (Or.inl ⟨by rfl, ?sc3⟩) hS ?_
          case sc3 => intro w hSw; go_simp
          simp only [Act.put, zp]
          refine wpAnyL_ready (rs := [4]) (by kernel_rfl) (by simp) ?_
          refine AllReadyL.cons rfl (fun K hK => ?_) AllReadyL.nil
          rw [if_pos (by rfl)]
          simp only [zq]
          go_wp2_with fail
          refine (l1Below_is B a len cap b 9 _ Qd.out.1.dw (by omega)).mono ?_
          rintro e w5 ⟨x, rfl, hx, d5, wr5⟩
          have Q5 := hid (And.intro (Qd.out.1.turn wr5 d5) (there_wr Qd.out.2 wr5 (by have := hNb.out; omega)))
          clear d5 wr5 hS Qd
          have hS : w5.cell? ⟨N, 1, Option.none⟩ = some (.slice (some ⟨gu, 0, Option.none⟩) n c4) := Q5.out.1.cells.2
          refine hK.out _ _ (fun _ => hS) ?_
          clear hK
          refine wpAnyL_take (i := 5) (v := .pointer (some ⟨gu, j, Option.none⟩)) rfl (by kernel_rfl) (by kernel_rfl) (by kernel_rfl) (by kernel_rfl) (fun _ _ _ => id) (Or.inl ⟨by rfl, ?sd5⟩) hS ?_
          case sd5 => intro w hSw; go_simp
          simp only [Act.put, zp]
          have P5 := hid (And.intro (Q5.out.1.putV (k := j) (n := x)) (World.there_setCells Q5.out.2 gu j [.int .i64 x]))
          have hv0 := Q5.out.1.sto.own.own (.slice (some ⟨gu, 0, Option.none⟩) n c4, V) (by simp)
          have hvl := Q5.out.1.vl
          simp only [hvl] at hv0
          obtain ⟨y, hy⟩ : ∃ y, (ints V)[j]? = some y := ⟨(ints V)[j]'(by rw [ints_len]; omega), List.getElem?_eq_getElem _⟩
          obtain ⟨d0, d1⟩ := iown_cell hv0 hy
          clear hv0 hy hS hvl
          refine wpAnyL_ready (rs := [6]) (by kernel_rfl) (by simp) ?_
          refine AllReadyL.cons rfl (fun K hK => ?_) AllReadyL.nil
          rw [if_pos (by rfl)]
          simp only [zq]
          go_wp2_with fail
          refine hK.out _ _ (fun e => absurd rfl e) ?_
          clear hK
          refine wpAnyL_done (by kernel_rfl) ?_ _
          go_wp2
          go_roundw
          case rel => exact ⟨j + 1, _, _, by omega, by go_num, P5⟩
          case measure => simp [RowKit.intOf]; omega
        · obtain rfl : j = n := by omega
          have RG := blk_range hin.out.1.blk
          go_wp2_with (first | (refine wpList_load_mid rfl 33 _ rfl N 0 rfl _ _ RG Tryz.underlying33 rfl sizeSto ?_) | (refine sA rfl 33 _ _ rfl (w.heap.size + 1) 0 #[.slice a3 hs.length c3, .slice a4 j c4, .slice Option.none 0 0, .int .i64 0] rfl rfl hin.out.2 sizeSto (one4 rfl rfl rfl rfl) ?_; intro W hW; have HW := hid hW; clear hW))
          have rg := World.rangeAt_setCells_same wr (w.heap.size + 1) 0 [.slice a3 hs.length c3, .slice a4 j c4, .slice Option.none 0 0, .int .i64 0] hin.out.2
          rw [HW.out] at rg
          have hlv := run_loadVar_mid W (w.heap.size + 1) 0 _ _ _ rg Tryz.underlying33 rfl sizeSto
          refine bodyPost_ret (v := .agg #[.slice a3 hs.length c3, .slice a4 j c4, .slice Option.none 0 0, .int .i64 0]) ?_ rfl ?_
          · simp [results, Tryz.results31, asAddr, hlv, Act.put]
            try rfl
          · have hq := hin.out.1
            have hWr : Wr (w.heap.size + 1) wr W := by rw [← HW.out]; exact wr_setsAt _ _ _ _
            have hBW : Below (w.heap.size + 1) wr W := by rw [← HW.out]; exact below_sets _ _ (Below.refl _ _) (Nat.le_refl _)
            refine ⟨_, _, r, V, rfl, ⟨own_lower (own_wr hq.sto.out hWr (by omega)) (by omega), ⟨fun p hp => own_lower (own_wr (hq.sto.own.own p hp) hWr (by omega)) (by omega), hq.sto.own.apart⟩⟩, ?_, ?_, hq.vl, ⟨hq.dw.hlen, hq.dw.hB, hq.dw.hC.later (hBW.mono (by omega)), hq.dw.cur.later (hBW.block b (by omega))⟩, wr_sets hq.wr (by omega) HW.out⟩
            · rw [← hrt.out, ← hq.sh, List.length_map]
            · intro p hp
              exact h16.out (p.1, p.2.length) (by rw [← hq.sh]; exact List.mem_map.2 ⟨p, hp, rfl⟩)
theorem StoO.wr {w w' : World} {b C : Nat} {va : Value} {rs : List VR} {v o : VR} (h : StoO w C va rs v o) (hw : Wr b w w') (hb : b < C) : StoO w' C va rs v o := ⟨own_wr h.out hw hb, ⟨fun r hr => own_wr (h.own.own r hr) hw hb, h.own.apart⟩⟩
theorem StoO.lower {w : World} {C C' : Nat} {va : Value} {rs : List VR} {v o : VR} (h : StoO w C va rs v o) (hc : C' ≤ C) : StoO w C' va rs v o := ⟨own_lower h.out hc, ⟨fun r hr => own_lower (h.own.own r hr) hc, h.own.apart⟩⟩
theorem three_sets {N : Nat} {w0 w W : World} {A C D : List Value} (thN : w.there N 0 A.length) (th1 : w.there (N + 1) 0 C.length) (th2 : w.there (N + 2) 0 D.length) (hB : Below N w0 w) (hW : ((w.setCells N 0 A).setCells (N + 1) 0 C).setCells (N + 2) 0 D = W) : (W.rangeAt N 0 A ∧ W.rangeAt (N + 1) 0 C ∧ W.rangeAt (N + 2) 0 D) ∧ Keeps (N + 3) w W ∧ Below N w0 W := by
  have r1 : (w.setCells N 0 A).rangeAt N 0 A := World.rangeAt_setCells_same _ _ _ _ thN
  have r2 : ((w.setCells N 0 A).setCells (N + 1) 0 C).rangeAt (N + 1) 0 C := World.rangeAt_setCells_same _ _ _ _ (World.there_setCells th1 _ _ _)
  subst hW
  refine ⟨⟨World.rangeAt_setCells_apart (World.rangeAt_setCells_apart r1 _ _ _ (.inl (by omega))) _ _ _ (.inl (by omega)), World.rangeAt_setCells_apart r2 _ _ _ (.inl (by omega)), World.rangeAt_setCells_same _ _ _ _ (World.there_setCells (World.there_setCells th2 _ _ _) _ _ _)⟩, fun a v hl hc => ?_, below_sets _ _ (below_sets _ _ (below_sets _ _ hB (Nat.le_refl _)) (by omega)) (by omega)⟩
  exact Keeps.sets _ (show N + 2 < N + 3 by omega) _ _ a v hl (Keeps.sets _ (show N + 1 < N + 3 by omega) _ _ a v hl (Keeps.sets _ (show N < N + 3 by omega) _ _ a v hl hc))
def bnds (x y : Int) : List AR := [⟨⟨#[105]⟩, x⟩, ⟨⟨#[106]⟩, y⟩]
theorem AV.of_bnds {w : World} {N q : Nat} {x y : Int} (hq : q ≤ 2) (hr : w.rangeAt N 0 [.string ⟨#[105]⟩, .int .i64 x, .string ⟨#[106]⟩, .int .i64 y]) (hN : N < w.heap.size) : AV w N (.slice (some ⟨N, 0, Option.none⟩) q 2) ((bnds x y).take q) := by
  have hl : ((bnds x y).take q).length = q := by rw [List.length_take]; simp [bnds]; omega
  refine ⟨some ⟨N, 0, Option.none⟩, 2, by rw [hl], .inr ⟨N, 0, rfl, Nat.le_refl _, hN, fun i t ht => ?_⟩⟩
  rw [List.getElem?_take] at ht
  split at ht
  · match i, ht with
    | 0, ht => cases ht; exact ⟨hr 0 _ rfl, hr 1 _ rfl⟩
    | 1, ht => cases ht; exact ⟨hr 2 _ rfl, hr 3 _ rfl⟩
    | i + 2, ht => simp [bnds] at ht
  · cases ht
structure EvAt (w : World) (lo : Nat) (ts : List AR) (F : SF) (rs : List VR) (V : List Int) (bs : List AR) (x : X) (va vb ua v bv u : Value) : Prop where
  p : AV w lo va ts
  f : SV w lo F vb
  s : StoO w lo ua rs (v, V) (.slice Option.none 0 0, [])
  b : AV w lo bv bs
  e : EV w lo x.l u
theorem EvAt.later {w w' : World} {lo : Nat} {ts : List AR} {F : SF} {rs : List VR} {V : List Int} {bs : List AR} {x : X} {va vb ua v bv u : Value} (h : EvAt w lo ts F rs V bs x va vb ua v bv u) (hb : Below w.heap.size w w') : EvAt w' lo ts F rs V bs x va vb ua v bv u :=
  ⟨h.p.later hb, h.f.later hb, h.s.later hb, h.b.later hb, h.e.later hb⟩
structure EvLim (ts : List AR) (F : SF) (rs : List VR) (V : List Int) (bs : List AR) (x : X) : Prop where
  t : ts.length ≤ 3
  f : ssize F ≤ limP
  r : rs.length ≤ 3
  l : ∀ r ∈ rs, r.2.length ≤ 16
  v : V.length ≤ 1000000
  b : bs.length ≤ 2
  x : xsize x ≤ limA
def DrawnEv (w : World) (e : Ending) (w' : World) : Prop :=
  ∃ (ts : List AR) (F : SF) (rs : List VR) (V : List Int) (bs : List AR) (x : X) (va vb ua v bv u : Value), e = .returned (.tuple #[.agg #[va, vb], .agg #[ua, v, .slice Option.none 0 0, .int .i64 0], bv, .agg (xC x u).toArray]) ∧ EvAt w' w.heap.size ts F rs V bs x va vb ua v bv u ∧ EvLim ts F rs V bs x ∧ Below w.heap.size w w'
theorem limP_leE : limP ≤ 10000 := by decide
theorem snodes_szE : ∀ F : SF, snodes F ≤ ssize F
  | .nil => Nat.zero_le _
  | .node _ _ h l r => by have := snodes_szE l; have := snodes_szE r; simp only [snodes, ssize]; omega
theorem DrawEval_is (a : Option Addr) (len cap : Nat) (w : World) (hlen : len ≤ 281474976710656) (hC : CodeIs w.heap.size w a len) : Calls Tryz.prog 15 #[.slice a len cap] w (DrawnEv w) := by
  have HC := hid hC
  clear hC
  obtain ⟨w0, hw0⟩ : ∃ w0, ((w.alloc (.cells #[nilS, nilS] 27)).alloc (.cells #[nilS, nilS, nilS, .int .i64 0] 33)).alloc (.cells zero4 43) = w0 := ⟨_, rfl⟩
  have hz : w0.heap.size = w.heap.size + 3 := by rw [← hw0]; simp
  have hb0 : Below w.heap.size w w0 := by rw [← hw0]; exact ((aB w _).alloc (by simp) _).alloc (by simp; omega) _
  have t0 : w0.there w.heap.size 0 2 := by
    rw [← hw0]
    exact there_later (there_later (newthere2 w nilS nilS 27) (aB _ _)) (aB _ _)
  have t1 : w0.there (w.heap.size + 1) 0 4 := by
    rw [← hw0]
    have h := there_later (thSto4 (w.alloc (.cells #[nilS, nilS] 27)) nilS nilS nilS (.int .i64 0) 33) (aB _ (.cells zero4 43))
    rw [World.size_alloc] at h
    exact h
  have t2 : w0.there (w.heap.size + 2) 0 4 := by
    rw [← hw0]
    have h := newthere4 ((w.alloc (.cells #[nilS, nilS] 27)).alloc (.cells #[nilS, nilS, nilS, .int .i64 0] 33)) 43
    rw [World.size_alloc, World.size_alloc] at h
    exact h
  have C1 : CodeIs w0.heap.size w0 a len := (HC.out.later hb0).mono (by omega)
  have L := hid (l1New w0.heap.size a len cap _ hlen C1)
  have H0 := hid (And.intro hb0 (And.intro t0 (And.intro t1 t2)))
  clear hb0 t0 t1 t2
  go_enter Tryz.func15, Tryz.ntmps15
  go_wp2_with fail
  try rw [hw0]
  refine L.out.mono ?_
  rintro e w1 ⟨rfl, hcur, hb1⟩
  have D1 : Hid (Dw w0.heap.size a len cap w0.heap.size w1) := ⟨hlen, Nat.le_refl _, C1.later hb1, hcur⟩
  have H1 := hid (And.intro (H0.out.1.trans (hb1.mono (by omega))) (And.intro (there_later H0.out.2.1 hb1) (And.intro (there_later H0.out.2.2.1 hb1) (there_later H0.out.2.2.2 hb1))))
  have h1 := hcur.lt
  rw [hz] at D1 h1 ⊢
  clear C1 hcur hb1 H0 L hw0 hz w0
  go_wp2_with fail
  refine (l4Prog_is (w.heap.size + 3) a len cap (w.heap.size + 3) _ D1.out).mono ?_
  rintro e w2 ⟨ts, F, va, vb, rfl, g1, g2, s1, s2, s3, d2, wr2⟩
  obtain ⟨aa, ac, rfl⟩ := g1.shape
  obtain ⟨ba, bc, rfl⟩ := g2.shape
  have hw2 := wr2.size
  have D2 := hid (And.intro d2 (And.intro g1 g2))
  have H2 := hid (And.intro (H1.out.1.trans (wr2.belowLo (by omega) (by omega))) (And.intro (there_wr H1.out.2.1 wr2 (by omega)) (And.intro (there_wr H1.out.2.2.1 wr2 (by omega)) (there_wr H1.out.2.2.2 wr2 (by omega)))))
  have LP := hid (And.intro s1 s3)
  clear d2 g1 g2 wr2 s1 s2 s3 D1 H1
  have T4 := newthere2 w2 nilS nilS 27
  go_wp2_with (first | (refine sA rfl 27 _ _ rfl w2.heap.size 0 #[.slice aa ts.length ac, .slice ba (slen F) bc] rfl rfl T4 sizePg (oneP2 _ _ _ _ _ _) ?_; intro W hW; have HW := hid (newArr2P hW); have R4 := blk_range HW.out.1; clear hW) | (refine wpList_load_mid rfl 27 _ rfl w2.heap.size 0 rfl _ _ R4 Tryz.underlying27 rfl sizePg ?_))
  have hsW := HW.out.2.size
  have hlF : ssize F ≤ 10000 := Nat.le_trans LP.out.2 limP_leE
  have hlen1 : (nmS 1 F []).length ≤ ssize F := by
    have h1 := nmS_len 1 F []
    have := snodes_szE F
    simp only [List.length_nil] at h1
    omega
  refine (l7Sto_is (w.heap.size + 3) a len cap (w.heap.size + 3) ts F (nmS 1 F []).length (by omega) (by have := LP.out.1; omega) _ _ W (D2.out.1.later HW.out.2) (D2.out.2.1.later HW.out.2).low (D2.out.2.2.later HW.out.2).low (fun w v hv => (spec_VarsOf F (by have := snodes_szE F; omega) w v hv).mono (by
    rintro e w' ⟨u, rfl, h1, h2⟩
    obtain ⟨a, c, rfl⟩ := h1.shape
    exact ⟨a, c, rfl, h2⟩))).mono ?_
  rintro e w3 ⟨ua, v, rs, V, rfl, so, r1, r2, r3, d3, wr3⟩
  obtain ⟨a3, c3, rfl⟩ := iownShape so.out
  obtain ⟨a4, c4, hv⟩ := iownShape (so.own.own (v, V) (by simp))
  simp only at hv
  subst hv
  have hw3 := wr3.size
  have R5 := hid (range_wr R4 wr3 (by omega))
  have D3 := hid (And.intro d3 (And.intro ((D2.out.2.1.later HW.out.2).wr wr3 (by omega)) (And.intro ((D2.out.2.2.later HW.out.2).wrA wr3 (by omega)) so)))
  have H3 := hid (And.intro ((H2.out.1.trans (HW.out.2.mono (by omega))).trans (wr3.belowLo (by omega) (by omega))) (And.intro (there_wr (there_later H2.out.2.1 HW.out.2) wr3 (by omega)) (And.intro (there_wr (there_later H2.out.2.2.1 HW.out.2) wr3 (by omega)) (there_wr (there_later H2.out.2.2.2 HW.out.2) wr3 (by omega)))))
  have LR := hid (And.intro r1 (And.intro r2 r3))
  clear so r1 r2 r3 d3 wr3 D2 H2 R4 HW T4
  go_wp2_with (refine sA rfl 33 _ _ rfl w3.heap.size 0 #[.slice a3 rs.length c3, .slice a4 V.length c4, .slice Option.none 0 0, .int .i64 0] rfl rfl ?ht0 sizeSto ?ho0 ?_; exact (thSto4 _ _ _ _ _ _); exact (one4 rfl rfl rfl rfl); intro W4 hW; have HW := hid (newSto4 hW); clear hW)
  have hs4 := HW.out.2.size
  have R6 := hid (And.intro (rangeAt_later R5.out HW.out.2) (blk_range HW.out.1))
  have D4 := hid (And.intro (D3.out.1.later HW.out.2) (And.intro (D3.out.2.1.later HW.out.2) (And.intro (D3.out.2.2.1.later HW.out.2) (D3.out.2.2.2.later HW.out.2))))
  have H4 := hid (And.intro (H3.out.1.trans (HW.out.2.mono (by omega))) (And.intro (there_later H3.out.2.1 HW.out.2) (And.intro (there_later H3.out.2.2.1 HW.out.2) (there_later H3.out.2.2.2 HW.out.2))))
  have hn8 : w3.heap.size < W4.heap.size := lt_heap HW.out.1
  clear R5 D3 H3 HW
  go_wp2_with fail
  refine (l1Below_is (w.heap.size + 3) a len cap (w.heap.size + 3) 9 _ D4.out.1 (by omega)).mono ?_
  rintro e w5 ⟨x1, rfl, hx1, d5, wr5⟩
  have hw5 := wr5.size
  have E5 := hid (And.intro d5 wr5)
  clear d5 wr5
  go_wp2_with fail
  refine (l1Below_is (w.heap.size + 3) a len cap (w.heap.size + 3) 9 _ E5.out.1 (by omega)).mono ?_
  rintro e w6 ⟨x2, rfl, hx2, d6, wr6⟩
  have hw6 := wr6.size
  have E6 := hid (And.intro d6 (E5.out.2.trans wr6))
  clear d6 wr6 E5
  go_wp2_with fail
  have b6 := aB w6 (.cells #[.string ⟨#[105]⟩, .int .i64 x1, .string ⟨#[106]⟩, .int .i64 x2] 75)
  have K6 := blk_range (blkLast w6 (.cells #[.string ⟨#[105]⟩, .int .i64 x1, .string ⟨#[106]⟩, .int .i64 x2] 75))
  have hb6 := b6.size
  have hN6 : w6.heap.size < (w6.alloc (.cells #[.string ⟨#[105]⟩, .int .i64 x1, .string ⟨#[106]⟩, .int .i64 x2] 75)).heap.size := by simp
  refine (l1Below_is (w.heap.size + 3) a len cap (w.heap.size + 3) 3 _ (E6.out.1.later b6) (by omega)).mono ?_
  rintro e w7 ⟨x3, rfl, hx3, d7, wr7⟩
  have hw7 := wr7.size
  have wrT : Wr (w.heap.size + 3) W4 w7 := (E6.out.2.trans (Wr.of_below b6)).trans wr7
  obtain ⟨q, rfl⟩ : ∃ q : Nat, x3 = (q : Int) := ⟨x3.toNat, by omega⟩
  have hq2 : q ≤ 2 := by omega
  have BB := hid (AV.of_bnds hq2 (range_wr K6 wr7 (by omega)) (by omega))
  have D7 := hid (And.intro d7 (And.intro (D4.out.2.1.wr wrT (by omega)) (And.intro (D4.out.2.2.1.wrA wrT (by omega)) (D4.out.2.2.2.wr wrT (by omega)))))
  have H7 := hid (And.intro (H4.out.1.trans (wrT.belowLo (by omega) (by omega))) (And.intro (there_wr H4.out.2.1 wrT (by omega)) (And.intro (there_wr H4.out.2.2.1 wrT (by omega)) (there_wr H4.out.2.2.2 wrT (by omega)))))
  have R7 := hid (And.intro (range_wr R6.out.1 wrT (by omega)) (range_wr R6.out.2 wrT (by omega)))
  have hqI : (q : Int) ≤ 2 := by omega
  have hn6 : w.heap.size + 4 ≤ w6.heap.size := by omega
  obtain ⟨n7, hn7⟩ : ∃ n, w2.heap.size = n := ⟨_, rfl⟩
  obtain ⟨n8, hn8'⟩ : ∃ n, w3.heap.size = n := ⟨_, rfl⟩
  obtain ⟨n9, hn9⟩ : ∃ n, w6.heap.size = n := ⟨_, rfl⟩
  have hN : (w.heap.size + 4 ≤ n7 ∧ w.heap.size + 4 ≤ n8) ∧ (w.heap.size + 4 ≤ n9 ∧ n9 < w7.heap.size) := by omega
  rw [hn7, hn8'] at R7
  rw [hn9] at BB
  clear d7 wr7 wrT E6 D4 H4 R6 b6 K6 hx1 hx2 hx3 hN6 hb6 hw7 hw6 hw5 hn8
  rw [hn7, hn8', hn9]
  clear hn7 hn8' hn9
  go_wp2_with fail
  have bd : Below w7.heap.size w7 w7.drew := (Below.refl _ w7).drew
  have Dd := hid (And.intro (D7.out.1.later bd) (And.intro (D7.out.2.1.later bd) (And.intro (D7.out.2.2.1.later bd) (And.intro (D7.out.2.2.2.later bd) (BB.out.later bd)))))
  have Bd := hid (H7.out.1.trans (bd.mono (by omega)))
  refine wp_region_held_drew (S := fun w' => ((w'.rangeAt n7 0 [.slice aa ts.length ac, .slice ba (slen F) bc] ∧ w'.rangeAt n8 0 [.slice a3 rs.length c3, .slice a4 V.length c4, .slice Option.none 0 0, .int .i64 0]) ∧ w'.there w.heap.size 0 2) ∧ w'.there (w.heap.size + 1) 0 4 ∧ w'.there (w.heap.size + 2) 0 4) (by kernel_rfl) ⟨⟨⟨rangeAt_later R7.out.1 bd, rangeAt_later R7.out.2 bd⟩, there_later H7.out.2.1 bd⟩, there_later H7.out.2.2.1 bd, there_later H7.out.2.2.2 bd⟩ (fun hHeld => ?_)
  obtain ⟨w8, hw8⟩ : ∃ W, w7.drew = W := ⟨_, rfl⟩
  have hsz8 := bd.size
  rw [hw8] at Dd Bd hHeld hsz8 ⊢
  clear hw8 bd D7 BB H7 R7
  refine wpAnyH_take (i := 0) (v := .agg #[.slice aa ts.length ac, .slice ba (slen F) bc]) rfl (by kernel_rfl) (by kernel_rfl) (by kernel_rfl) (fun _ _ _ => id) (yieldsIf_load_mid (by rfl) 27 _ rfl n7 0 rfl [.slice aa ts.length ac, .slice ba (slen F) bc] _ (fun w h => h.1.1.1) Tryz.underlying27 rfl sizePg) hHeld ?_
  simp only [Act.put, zp]
  refine wpAnyH_take (i := 1) (v := .agg #[.slice a3 rs.length c3, .slice a4 V.length c4, .slice Option.none 0 0, .int .i64 0]) rfl (by kernel_rfl) (by kernel_rfl) (by kernel_rfl) (fun _ _ _ => id) (yieldsIf_load_mid (by rfl) 33 _ rfl n8 0 rfl [.slice a3 rs.length c3, .slice a4 V.length c4, .slice Option.none 0 0, .int .i64 0] _ (fun w h => h.1.1.2) Tryz.underlying33 rfl sizeSto) hHeld ?_
  simp only [Act.put, zp]
  refine wpAnyH_take (i := 2) (v := .slice (some ⟨n9, 0, Option.none⟩) q 2) rfl (by kernel_rfl) (by kernel_rfl) (by kernel_rfl) (fun _ _ _ => id) (Or.inl ⟨by rfl, ?ua2⟩) hHeld ?_
  case ua2 => intro w hSw; go_simp
  simp only [Act.put, zp]
  refine wpAnyH_take (i := 3) (v := .pointer (some ⟨w.heap.size + 3, 0, Option.none⟩)) rfl (by kernel_rfl) (by kernel_rfl) (by kernel_rfl) (fun _ _ _ => id) (Or.inl ⟨by rfl, ?ua3⟩) hHeld ?_
  case ua3 => intro w hSw; go_simp
  simp only [Act.put, zp]
  refine wpAnyH_ready (rs := [4]) (by kernel_rfl) (by simp) ?_
  refine AllReadyH.cons rfl (fun K hK => ?_) AllReadyH.nil
  rw [if_pos (by rfl)]
  simp only [zq]
  go_wp2_with fail
  refine (l3Any_is (w.heap.size + 3) a len cap (w.heap.size + 3) _ Dd.out.1).mono ?_
  rintro e w9 ⟨x, u, rfl, g9, s9, d9, wr9⟩
  have hw9 := wr9.size
  have io := oneX x u g9.isOne
  have D9 := hid (And.intro (Dd.out.2.1.wr wr9 (by omega)) (And.intro (Dd.out.2.2.1.wrA wr9 (by omega)) (And.intro (Dd.out.2.2.2.1.wr wr9 (by omega)) (And.intro (Dd.out.2.2.2.2.wr wr9 (by omega)) g9))))
  have B9 := hid (Bd.out.trans (wr9.belowLo (by omega) (by omega)))
  go_wp2_with fail
  refine hK.out _ _ ⟨⟨⟨range_wr hHeld.1.1.1 wr9 (by omega), range_wr hHeld.1.1.2 wr9 (by omega)⟩, there_wr hHeld.1.2 wr9 (by omega)⟩, there_wr hHeld.2.1 wr9 (by omega), there_wr hHeld.2.2 wr9 (by omega)⟩ (fun hHeld => ?_)
  try simp only [Act.put, zp]
  clear g9 d9 wr9 hK Dd Bd
  obtain ⟨WE, hWE⟩ : ∃ WE, ((w9.setCells w.heap.size 0 [.slice aa ts.length ac, .slice ba (slen F) bc]).setCells (w.heap.size + 1) 0 [.slice a3 rs.length c3, .slice a4 V.length c4, .slice Option.none 0 0, .int .i64 0]).setCells (w.heap.size + 2) 0 (xC x u) = WE := ⟨_, rfl⟩
  have HT := hid (three_sets (A := [.slice aa ts.length ac, .slice ba (slen F) bc]) (C := [.slice a3 rs.length c3, .slice a4 V.length c4, .slice Option.none 0 0, .int .i64 0]) (D := xC x u) hHeld.1.2 hHeld.2.1 hHeld.2.2 B9.out hWE)
  refine wpAnyH_ready (rs := [5]) (by kernel_rfl) (by simp) ?_
  refine AllReadyH.cons rfl (fun K hK => ?_) AllReadyH.nil
  rw [if_pos (by rfl)]
  simp only [zq]
  refine wp_store_mid 27 _ _ rfl _ _ _ rfl rfl ?hst5 sizePg ?hut5 ?_
  case hst5 => exact hHeld.1.2
  case hut5 => exact oneP2 _ _ _ _ _ _
  refine hK.out _ _ ⟨⟨⟨World.rangeAt_setCells_apart hHeld.1.1.1 _ _ _ (.inl (by omega)), World.rangeAt_setCells_apart hHeld.1.1.2 _ _ _ (.inl (by omega))⟩, World.there_setCells hHeld.1.2 _ _ _⟩, World.there_setCells hHeld.2.1 _ _ _, World.there_setCells hHeld.2.2 _ _ _⟩ (fun hHeld => ?_)
  simp only [Act.put, zp]
  refine wpAnyH_ready (rs := [6]) (by kernel_rfl) (by simp) ?_
  refine AllReadyH.cons rfl (fun K hK => ?_) AllReadyH.nil
  rw [if_pos (by rfl)]
  simp only [zq]
  refine wp_store_mid 33 _ _ rfl _ _ _ rfl rfl ?hst6 sizeSto ?hut6 ?_
  case hst6 => exact hHeld.2.1
  case hut6 => exact one4 rfl rfl rfl rfl
  refine hK.out _ _ ⟨⟨⟨World.rangeAt_setCells_apart hHeld.1.1.1 _ _ _ (.inl (by omega)), World.rangeAt_setCells_apart hHeld.1.1.2 _ _ _ (.inl (by omega))⟩, World.there_setCells hHeld.1.2 _ _ _⟩, World.there_setCells hHeld.2.1 _ _ _, World.there_setCells hHeld.2.2 _ _ _⟩ (fun hHeld => ?_)
  simp only [Act.put, zp]
  refine wpAnyH_take (i := 7) (v := .slice (some ⟨n9, 0, Option.none⟩) q 2) rfl (by kernel_rfl) (by kernel_rfl) (by kernel_rfl) (fun _ _ _ => id) (Or.inl ⟨by rfl, ?ub7⟩) hHeld ?_
  case ub7 => intro w hSw; go_simp
  simp only [Act.put, zp]
  refine wpAnyH_ready (rs := [8]) (by kernel_rfl) (by simp) ?_
  refine AllReadyH.cons rfl (fun K hK => ?_) AllReadyH.nil
  rw [if_pos (by rfl)]
  simp only [zq]
  refine wp_store_mid 43 _ _ rfl _ _ _ rfl rfl ?hst8 sizeIE2 ?hut8 ?_
  case hst8 => exact hHeld.2.2
  case hut8 => exact io
  refine hK.out _ _ ⟨⟨⟨World.rangeAt_setCells_apart hHeld.1.1.1 _ _ _ (.inl (by omega)), World.rangeAt_setCells_apart hHeld.1.1.2 _ _ _ (.inl (by omega))⟩, World.there_setCells hHeld.1.2 _ _ _⟩, World.there_setCells hHeld.2.1 _ _ _, World.there_setCells hHeld.2.2 _ _ _⟩ (fun hHeld => ?_)
  simp only [Act.put, zp]
  refine wpAnyH_done (by kernel_rfl) ?_ _
  have HWE := hid hWE
  clear hHeld hWE
  go_wp2
  have rg := HT.out.1
  rw [← HWE.out] at rg
  have hl0 := run_loadVar_mid _ w.heap.size 0 _ _ _ rg.1 Tryz.underlying27 rfl sizePg
  have hl1 := run_loadVar_mid _ (w.heap.size + 1) 0 _ _ _ rg.2.1 Tryz.underlying33 rfl sizeSto
  have hl2 := run_loadVar_mid _ (w.heap.size + 2) 0 _ _ _ rg.2.2 Tryz.underlying43 rfl sizeIE2
  have hk := HT.out.2.1
  have hB := HT.out.2.2
  have hzW : w9.heap.size ≤ WE.heap.size := by rw [← HWE.out, size_sets, size_sets, size_sets]; exact Nat.le_refl _
  have hS : StoO WE w.heap.size (.slice a3 rs.length c3) rs (.slice a4 V.length c4, V) (.slice Option.none 0 0, []) := by
    rw [← HWE.out]
    exact (((D9.out.2.2.1.wr (wr_setsAt _ _ _ _) (by omega)).wr (wr_setsAt _ _ _ _) (by omega)).wr (wr_setsAt _ _ _ _) (by omega)).lower (by omega)
  refine bodyPost_ret (v := .tuple #[.agg #[.slice aa ts.length ac, .slice ba (slen F) bc], .agg #[.slice a3 rs.length c3, .slice a4 V.length c4, .slice Option.none 0 0, .int .i64 0], .slice (some ⟨n9, 0, Option.none⟩) q 2, .agg (xC x u).toArray]) ?_ rfl ⟨ts, F, rs, V, (bnds x1 x2).take q, x, _, _, _, _, _, u, rfl, ?_, ?_, ?_⟩
  · simp [results, Tryz.results15, asAddr, hl0, hl1, hl2, Act.put]
  · rw [HWE.out]
    exact ⟨D9.out.1.same (by omega) (fun a v hl hc => hk a v (by omega) hc) hzW, D9.out.2.1.same (by omega) (fun a v hl hc => hk a v (by omega) hc), hS, D9.out.2.2.2.1.same (by omega) (fun a v hl hc => hk a v (by omega) hc) hzW, D9.out.2.2.2.2.same (by omega) (fun a v hl hc => hk a v (by omega) hc)⟩
  · exact ⟨LP.out.1, LP.out.2, by have := LP.out.1; have := LR.out.1; omega, LR.out.2.1, by have := LR.out.2.2; omega, by rw [List.length_take]; simp [bnds]; omega, s9⟩
  · rw [HWE.out]; exact hB
end Go.Proofs.YtpinockfakndlaaGreat
