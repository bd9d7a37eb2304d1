/-
  The walk of laws.FnMeets.
-/
import Derived.Test.YtjdpddcnogdekaaGreatP44ofMx
import Derived.Test.YtjdpddcnogdekaaGreatP49ofMx
import Derived.Test.YtjdpddcnogdekaaGreatP50ofMx
import Derived.Test.YtjdpddcnogdekaaGreatMtMeetsP
import Derived.Test.YtjdpddcnogdekaaGreatBoxOkI
namespace Go.Proofs.YtjdpddcnogdekaaGreat
open Go.RowKit Go.Lib
set_option linter.unusedSimpArgs false
set_option linter.unusedVariables false

theorem meets_all {c d : Int} {ts us : List AR} (hp : Small8 c ts) (hq : Small8 d us) {l0 h0 l1 h1 l2 h2 x x' : Int} (b0 : -1 ≤ l0 ∧ l0 ≤ 3 ∧ l0 ≤ h0 ∧ h0 ≤ l0 + 4) (b1 : -1 ≤ l1 ∧ l1 ≤ 3 ∧ l1 ≤ h1 ∧ h1 ≤ l1 + 4) (b2 : -1 ≤ l2 ∧ l2 ≤ 3 ∧ l2 ≤ h2 ∧ h2 ≤ l2 + 4)
    (hx : l0 ≤ x ∧ x ≤ h0) (hx' : l0 ≤ x' ∧ x' ≤ h0) (h : meetAt11 c ts d us nI x x' [⟨nI, l0, h0⟩, ⟨nJ, l1, h1⟩, ⟨nK, l2, h2⟩] = true) :
    gcdMeet11 c ts d us = true ∧ rngMeet11 c ts d us [⟨nI, l0, h0⟩, ⟨nJ, l1, h1⟩, ⟨nK, l2, h2⟩] = true ∧ (x ≠ x' → mayMeet11 c ts d us nI [⟨nI, l0, h0⟩, ⟨nJ, l1, h1⟩, ⟨nK, l2, h2⟩] = true) := by
  rw [meetAt11, Bool.and_eq_true] at h
  have hs := meet_same hp hq b1 b2 (by omega) (by omega) h.2
  exact ⟨same_gcd hp hq hs, same_rng hp hq b0 b1 b2 hx hx' hs, fun hne => same_may hp hq b0 b1 b2 hx hx' hne hs⟩
theorem box_names {l0 h0 l1 h1 l2 h2 : Int} : ∀ t ∈ ([⟨nI, l0, h0⟩, ⟨nJ, l1, h1⟩, ⟨nK, l2, h2⟩] : List RG), t.s.size ≤ 281474976710656 := by
  intro t ht
  simp only [List.mem_cons, List.not_mem_nil, or_false] at ht
  rcases ht with rfl | rfl | rfl
  · show nI.size ≤ 281474976710656; decide
  · show nJ.size ≤ 281474976710656; decide
  · show nK.size ≤ 281474976710656; decide
theorem small_names {c : Int} {ts : List AR} (h : Small8 c ts) : ∀ t ∈ ts, t.s.size ≤ 281474976710656 := by
  intro t ht
  obtain ⟨j, hj⟩ := h.nm t ht
  have : t.s ∈ nm3 := List.mem_of_getElem? hj
  simp only [nm3, List.mem_cons, List.not_mem_nil, or_false] at this
  rcases this with e | e | e <;> (rw [e]; decide)
/-- the first range's ends -/
theorem row0_11 {w : World} {g k4 : Nat} {r r1 r2 : RG} (h : RV w 0 (.slice (some ⟨g, 0, Option.none⟩) 3 k4) [r, r1, r2]) : w.cell? ⟨g, 1, Option.none⟩ = some (.int .i64 r.lo) ∧ w.cell? ⟨g, 2, Option.none⟩ = some (.int .i64 r.hi) := by
  obtain ⟨ao, cap, heq, _, hr⟩ := h
  injection heq with h1 _ h3
  subst h1
  rcases hr with hr | ⟨g2, off, hge, _, gl, hc⟩
  · cases hr
  · injection hge with hge
    injection hge with e1 e2
    subst e1; subst e2
    have := hc 0 r rfl
    exact ⟨by simpa using this.2.1, by simpa using this.2.2⟩
theorem big_is11 (a : Option Addr) (len cap : Nat) (w : World) : Calls Tryz.prog 5 #[.slice a len cap] w fun e w' => e = .returned (.bool (decide ((1048576 : Int) < (len : Int)))) ∧ w = w' := by
  go_enter Tryz.func5, Tryz.ntmps5
  go_wp2
  go_ret
  exact ⟨rfl, rfl⟩
set_option maxHeartbeats 8000000 in
set_option maxRecDepth 100000 in
theorem meets_walk (a : Option Addr) (len cap : Nat) (w : World) (hC : CodeIs w.heap.size w a len) :
    Calls Tryz.prog 3 #[.slice a len cap] w fun e w' => e = .returned (.bool true) ∧ Below w.heap.size w w' := by
  have HC := Lib.hid hC
  clear hC
  go_enter Tryz.func3, Tryz.ntmps3
  go_wp2_with fail
  refine (big_is11 a len cap _).mono ?_
  rintro e w0 ⟨rfl, rfl⟩
  by_cases hbig : (1048576 : Int) < (len : Int)
  · have hb1 : decide ((1048576 : Int) < (len : Int)) = true := decide_eq_true hbig
    rw [hb1]
    go_wp2
    go_ret
    exact ⟨rfl, Below.refl _ _⟩
  have hb1 : decide ((1048576 : Int) < (len : Int)) = false := decide_eq_false hbig
  rw [hb1]
  have hlen : len ≤ 281474976710656 := by omega
  clear hb1 hbig
  go_wp2_with fail
  refine (DrawMeets_own a len cap _ hlen HC.out).mono ?_
  rintro e w1 ⟨c, ts, d, us, rs, v, v2, u, rfl, p1, p2, p3, own1, own2, own3, hb⟩
  obtain ⟨a1, c1, rfl⟩ := ownShape own1
  obtain ⟨a2, c2, rfl⟩ := ownShape own2
  obtain ⟨l0, h0, l1, h1, l2, h2, rfl, b0, b1, b2⟩ := box3 p3
  obtain ⟨g, k4, rfl⟩ : ∃ g oc, u = .slice (some ⟨g, 0, Option.none⟩) 3 oc := by
    rcases own3.2 with ⟨_, h1⟩ | ⟨g, cap, cur, h1, _⟩
    · simp at h1
    · exact ⟨g, cap, h1⟩
  have hr4 := (RV.ofOwn9 (k := 3) (rs := [⟨nI, l0, h0⟩, ⟨nJ, l1, h1⟩, ⟨nK, l2, h2⟩]) own3 rfl (Nat.le_refl _)).low
  have T1 := Two11.start w1 c d 26 (AV.ofOwn8 own1) (AV.ofOwn8 own2) hr4
  have P := Lib.hid (And.intro p1 p2)
  have LO := Lib.hid hb
  have SM := Lib.hid (fun (x y : Int) (hx : l0 ≤ x ∧ x ≤ h0) (hy : l0 ≤ y ∧ y ≤ h0) (h : meetAt11 c ts d us nI x y [⟨nI, l0, h0⟩, ⟨nJ, l1, h1⟩, ⟨nK, l2, h2⟩] = true) => meets_all p1 p2 b0 b1 b2 hx hy h)
  have BK := Lib.hid (box_ok9 b0 b1 b2).1
  have hbnd : -1 ≤ l0 ∧ l0 ≤ 3 ∧ l0 ≤ h0 ∧ h0 ≤ l0 + 4 := b0
  clear b0 b1 b2 p1 p2 p3 own1 own2 own3 hb hr4 HC hlen
  obtain ⟨W1, hW1⟩ : ∃ W, Hid (W = (w1.alloc (.cells #[.int .i64 c, .slice a1 ts.length c1] 26)).alloc (.cells #[.int .i64 d, .slice a2 us.length c2] 26)) := ⟨_, rfl⟩
  obtain ⟨⟨x1, x2⟩, ⟨x3, x4⟩⟩ := And.intro (And.intro (cellC11 T1.r1) (cellT11 T1.r1)) (And.intro (cellC11 T1.r2) (cellT11 T1.r2))
  rw [← hW1.out] at T1
  have T2 := Lib.hid T1
  clear T1
  have HN : Hid (ts.length ≤ 10000000 ∧ us.length ≤ 10000000) := show _ ∧ _ from ⟨by have := P.out.1.2.2.1; omega, by have := P.out.2.2.2.1; omega⟩
  have BL := Lib.hid (fun (wz : World) (h : Two11 w1 wz w1.heap.size (w1.heap.size + 1) c d (.slice a1 ts.length c1) (.slice a2 us.length c2) (.slice (some ⟨g, 0, Option.none⟩) 3 k4) ts us [⟨nI, l0, h0⟩, ⟨nJ, l1, h1⟩, ⟨nK, l2, h2⟩]) => LO.out.trans (h.low.mono LO.out.size))
  cases hmv : mayMeet11 c ts d us nI [⟨nI, l0, h0⟩, ⟨nJ, l1, h1⟩, ⟨nK, l2, h2⟩] with
  | false =>
    have HMV := Lib.hid hmv
    clear hmv
    go_wp2_with fail
    rw [← hW1.out]
    clear x1 x2 x3 x4 hW1
    refine (impl_MayMeet c ts HN.out.1 d us HN.out.2 nI [⟨nI, l0, h0⟩, ⟨nJ, l1, h1⟩, ⟨nK, l2, h2⟩] (by simp) _ _ _ _ T2.out.a1 T2.out.a2 T2.out.rr false HMV.out).mono ?_
    rintro e w2 ⟨rfl, hb1⟩
    have T3 := Lib.hid (T2.out.later hb1)
    clear hb1 T2
    obtain ⟨⟨x1, x2⟩, ⟨x3, x4⟩⟩ := And.intro (And.intro (cellC11 T3.out.r1) (cellT11 T3.out.r1)) (And.intro (cellC11 T3.out.r2) (cellT11 T3.out.r2))
    go_wp2_with fail
    refine (spec_MayMeet c ts HN.out.1 (small_names P.out.1) d us HN.out.2 (small_names P.out.2) nI [⟨nI, l0, h0⟩, ⟨nJ, l1, h1⟩, ⟨nK, l2, h2⟩] (by simp) box_names _ _ _ _ T3.out.a1 T3.out.a2 T3.out.rr false HMV.out).mono ?_
    rintro e w3 ⟨rfl, hb1⟩
    have T5 := Lib.hid (T3.out.later hb1)
    clear hb1 T3 x1 x2 x3 x4
    obtain ⟨z1, z2⟩ := row0_11 T5.out.rr
    go_wp2
    clear z1 z2
    go_loopw [7] (fun i wr => ∃ x : Int, i = .int .i64 x ∧ l0 ≤ x ∧ x ≤ h0 + 1 ∧ Hid (Two11 w1 wr w1.heap.size (w1.heap.size + 1) c d (.slice a1 ts.length c1) (.slice a2 us.length c2) (.slice (some ⟨g, 0, Option.none⟩) 3 k4) ts us [⟨nI, l0, h0⟩, ⟨nJ, l1, h1⟩, ⟨nK, l2, h2⟩])) (fun i _ => (h0 + 1 - RowKit.intOf i).toNat)
    case atStart => exact ⟨l0, rfl, by omega, by omega, T5.out⟩
    case round =>
      obtain ⟨x, rfl, hx0, hx1, HT⟩ := hrel
      obtain ⟨z1, z2⟩ := row0_11 HT.out.rr
      by_cases hx : x ≤ h0
      · go_wp2
        clear z1 z2
        go_loopw [8] (fun k wq => ∃ y : Int, k = .int .i64 y ∧ l0 ≤ y ∧ y ≤ h0 + 1 ∧ Hid (Two11 w1 wq w1.heap.size (w1.heap.size + 1) c d (.slice a1 ts.length c1) (.slice a2 us.length c2) (.slice (some ⟨g, 0, Option.none⟩) 3 k4) ts us [⟨nI, l0, h0⟩, ⟨nJ, l1, h1⟩, ⟨nK, l2, h2⟩])) (fun k _ => (h0 + 1 - RowKit.intOf k).toNat)
        case atStart => exact ⟨l0, rfl, by omega, by omega, HT.out⟩
        case round =>
          obtain ⟨y, rfl, hy0, hy1, HQ⟩ := hrel
          obtain ⟨z1, z2⟩ := row0_11 HQ.out.rr
          by_cases hy : y ≤ h0
          · obtain ⟨⟨x1, x2⟩, ⟨x3, x4⟩⟩ := And.intro (And.intro (cellC11 HQ.out.r1) (cellT11 HQ.out.r1)) (And.intro (cellC11 HQ.out.r2) (cellT11 HQ.out.r2))
            cases hm : meetAt11 c ts d us nI x y [⟨nI, l0, h0⟩, ⟨nJ, l1, h1⟩, ⟨nK, l2, h2⟩] with
            | false =>
              have HMM := Lib.hid hm
              clear hm
              go_wp2_with fail
              refine (impl_MeetAt c ts HN.out.1 d us HN.out.2 nI x y [⟨nI, l0, h0⟩, ⟨nJ, l1, h1⟩, ⟨nK, l2, h2⟩] (by simp) _ _ _ _ HQ.out.a1 HQ.out.a2 HQ.out.rr false HMM.out).mono ?_
              rintro e w9 ⟨rfl, hb⟩
              have T9 := Lib.hid (HQ.out.later hb)
              clear hb x1 x2 x3 x4 z1 z2
              by_cases hxy : x = y
              · subst hxy
                go_wp2
                go_roundw
                case rel => exact ⟨x + 1, by go_num, by omega, by omega, T9.out⟩
                case measure => simp [RowKit.intOf]; omega
              · have hxyb : (x != y) = true := by simp [hxy]
                go_wp2
                go_roundw
                case rel => exact ⟨y + 1, by go_num, by omega, by omega, T9.out⟩
                case measure => simp [RowKit.intOf]; omega
            | true =>
              have HS := Lib.hid (SM.out x y ⟨hx0, hx⟩ ⟨hy0, hy⟩ hm)
              have HMM := Lib.hid hm
              clear hm
              go_wp2_with fail
              refine (impl_MeetAt c ts HN.out.1 d us HN.out.2 nI x y [⟨nI, l0, h0⟩, ⟨nJ, l1, h1⟩, ⟨nK, l2, h2⟩] (by simp) _ _ _ _ HQ.out.a1 HQ.out.a2 HQ.out.rr true HMM.out).mono ?_
              rintro e w9 ⟨rfl, hb⟩
              have T9 := Lib.hid (HQ.out.later hb)
              clear hb x1 x2 x3 x4 z1 z2
              by_cases hxy : x = y
              · subst hxy
                obtain ⟨⟨x1, x2⟩, ⟨x3, x4⟩⟩ := And.intro (And.intro (cellC11 T9.out.r1) (cellT11 T9.out.r1)) (And.intro (cellC11 T9.out.r2) (cellT11 T9.out.r2))
                go_wp2_with fail
                refine (impl_GcdMeet c ts HN.out.1 d us HN.out.2 _ _ _ T9.out.a1 T9.out.a2 true HS.out.1).mono ?_
                rintro e w10 ⟨rfl, hb⟩
                have T10 := Lib.hid (T9.out.later hb)
                clear hb T9 x1 x2 x3 x4
                obtain ⟨⟨x1, x2⟩, ⟨x3, x4⟩⟩ := And.intro (And.intro (cellC11 T10.out.r1) (cellT11 T10.out.r1)) (And.intro (cellC11 T10.out.r2) (cellT11 T10.out.r2))
                go_wp2_with fail
                refine (impl_RngMeet c ts (by have := HN.out; omega) d us (by have := HN.out; omega) [⟨nI, l0, h0⟩, ⟨nJ, l1, h1⟩, ⟨nK, l2, h2⟩] (by simp) _ _ _ _ T10.out.a1 T10.out.a2 T10.out.rr true HS.out.2.1).mono ?_
                rintro e w11 ⟨rfl, hb⟩
                have T11 := Lib.hid (T10.out.later hb)
                clear hb T10 x1 x2 x3 x4
                go_wp2
                go_roundw
                case rel => exact ⟨x + 1, by go_num, by omega, by omega, T11.out⟩
                case measure => simp [RowKit.intOf]; omega
              · have h2 := HS.out.2.2 hxy
                rw [HMV.out] at h2
                cases h2
          · go_wp2
            go_roundw
            case rel => exact ⟨x + 1, by go_num, by omega, by omega, HQ.out⟩
            case measure => simp [RowKit.intOf]; omega
      · go_wp2_with fail
        refine (impl_BoxOk [⟨nI, l0, h0⟩, ⟨nJ, l1, h1⟩, ⟨nK, l2, h2⟩] (by simp) _ _ HT.out.rr true BK.out).mono ?_
        rintro e w12 ⟨rfl, hb⟩
        have B12 := Lib.hid (BL.out _ (HT.out.later hb))
        clear hb
        go_wp2
        go_ret
        exact ⟨rfl, B12.out⟩
  | true =>
    have HMV := Lib.hid hmv
    clear hmv
    go_wp2_with fail
    rw [← hW1.out]
    clear x1 x2 x3 x4 hW1
    refine (impl_MayMeet c ts HN.out.1 d us HN.out.2 nI [⟨nI, l0, h0⟩, ⟨nJ, l1, h1⟩, ⟨nK, l2, h2⟩] (by simp) _ _ _ _ T2.out.a1 T2.out.a2 T2.out.rr true HMV.out).mono ?_
    rintro e w2 ⟨rfl, hb1⟩
    have T3 := Lib.hid (T2.out.later hb1)
    clear hb1 T2
    obtain ⟨⟨x1, x2⟩, ⟨x3, x4⟩⟩ := And.intro (And.intro (cellC11 T3.out.r1) (cellT11 T3.out.r1)) (And.intro (cellC11 T3.out.r2) (cellT11 T3.out.r2))
    go_wp2_with fail
    refine (spec_MayMeet c ts HN.out.1 (small_names P.out.1) d us HN.out.2 (small_names P.out.2) nI [⟨nI, l0, h0⟩, ⟨nJ, l1, h1⟩, ⟨nK, l2, h2⟩] (by simp) box_names _ _ _ _ T3.out.a1 T3.out.a2 T3.out.rr true HMV.out).mono ?_
    rintro e w3 ⟨rfl, hb1⟩
    have T5 := Lib.hid (T3.out.later hb1)
    clear hb1 T3 x1 x2 x3 x4
    obtain ⟨z1, z2⟩ := row0_11 T5.out.rr
    go_wp2
    clear z1 z2
    go_loopw [7] (fun i wr => ∃ x : Int, i = .int .i64 x ∧ l0 ≤ x ∧ x ≤ h0 + 1 ∧ Hid (Two11 w1 wr w1.heap.size (w1.heap.size + 1) c d (.slice a1 ts.length c1) (.slice a2 us.length c2) (.slice (some ⟨g, 0, Option.none⟩) 3 k4) ts us [⟨nI, l0, h0⟩, ⟨nJ, l1, h1⟩, ⟨nK, l2, h2⟩])) (fun i _ => (h0 + 1 - RowKit.intOf i).toNat)
    case atStart => exact ⟨l0, rfl, by omega, by omega, T5.out⟩
    case round =>
      obtain ⟨x, rfl, hx0, hx1, HT⟩ := hrel
      obtain ⟨z1, z2⟩ := row0_11 HT.out.rr
      by_cases hx : x ≤ h0
      · go_wp2
        clear z1 z2
        go_loopw [8] (fun k wq => ∃ y : Int, k = .int .i64 y ∧ l0 ≤ y ∧ y ≤ h0 + 1 ∧ Hid (Two11 w1 wq w1.heap.size (w1.heap.size + 1) c d (.slice a1 ts.length c1) (.slice a2 us.length c2) (.slice (some ⟨g, 0, Option.none⟩) 3 k4) ts us [⟨nI, l0, h0⟩, ⟨nJ, l1, h1⟩, ⟨nK, l2, h2⟩])) (fun k _ => (h0 + 1 - RowKit.intOf k).toNat)
        case atStart => exact ⟨l0, rfl, by omega, by omega, HT.out⟩
        case round =>
          obtain ⟨y, rfl, hy0, hy1, HQ⟩ := hrel
          obtain ⟨z1, z2⟩ := row0_11 HQ.out.rr
          by_cases hy : y ≤ h0
          · obtain ⟨⟨x1, x2⟩, ⟨x3, x4⟩⟩ := And.intro (And.intro (cellC11 HQ.out.r1) (cellT11 HQ.out.r1)) (And.intro (cellC11 HQ.out.r2) (cellT11 HQ.out.r2))
            cases hm : meetAt11 c ts d us nI x y [⟨nI, l0, h0⟩, ⟨nJ, l1, h1⟩, ⟨nK, l2, h2⟩] with
            | false =>
              have HMM := Lib.hid hm
              clear hm
              go_wp2_with fail
              refine (impl_MeetAt c ts HN.out.1 d us HN.out.2 nI x y [⟨nI, l0, h0⟩, ⟨nJ, l1, h1⟩, ⟨nK, l2, h2⟩] (by simp) _ _ _ _ HQ.out.a1 HQ.out.a2 HQ.out.rr false HMM.out).mono ?_
              rintro e w9 ⟨rfl, hb⟩
              have T9 := Lib.hid (HQ.out.later hb)
              clear hb x1 x2 x3 x4 z1 z2
              by_cases hxy : x = y
              · subst hxy
                go_wp2
                go_roundw
                case rel => exact ⟨x + 1, by go_num, by omega, by omega, T9.out⟩
                case measure => simp [RowKit.intOf]; omega
              · have hxyb : (x != y) = true := by simp [hxy]
                go_wp2
                go_roundw
                case rel => exact ⟨y + 1, by go_num, by omega, by omega, T9.out⟩
                case measure => simp [RowKit.intOf]; omega
            | true =>
              have HS := Lib.hid (SM.out x y ⟨hx0, hx⟩ ⟨hy0, hy⟩ hm)
              have HMM := Lib.hid hm
              clear hm
              go_wp2_with fail
              refine (impl_MeetAt c ts HN.out.1 d us HN.out.2 nI x y [⟨nI, l0, h0⟩, ⟨nJ, l1, h1⟩, ⟨nK, l2, h2⟩] (by simp) _ _ _ _ HQ.out.a1 HQ.out.a2 HQ.out.rr true HMM.out).mono ?_
              rintro e w9 ⟨rfl, hb⟩
              have T9 := Lib.hid (HQ.out.later hb)
              clear hb x1 x2 x3 x4 z1 z2
              by_cases hxy : x = y
              · subst hxy
                obtain ⟨⟨x1, x2⟩, ⟨x3, x4⟩⟩ := And.intro (And.intro (cellC11 T9.out.r1) (cellT11 T9.out.r1)) (And.intro (cellC11 T9.out.r2) (cellT11 T9.out.r2))
                go_wp2_with fail
                refine (impl_GcdMeet c ts HN.out.1 d us HN.out.2 _ _ _ T9.out.a1 T9.out.a2 true HS.out.1).mono ?_
                rintro e w10 ⟨rfl, hb⟩
                have T10 := Lib.hid (T9.out.later hb)
                clear hb T9 x1 x2 x3 x4
                obtain ⟨⟨x1, x2⟩, ⟨x3, x4⟩⟩ := And.intro (And.intro (cellC11 T10.out.r1) (cellT11 T10.out.r1)) (And.intro (cellC11 T10.out.r2) (cellT11 T10.out.r2))
                go_wp2_with fail
                refine (impl_RngMeet c ts (by have := HN.out; omega) d us (by have := HN.out; omega) [⟨nI, l0, h0⟩, ⟨nJ, l1, h1⟩, ⟨nK, l2, h2⟩] (by simp) _ _ _ _ T10.out.a1 T10.out.a2 T10.out.rr true HS.out.2.1).mono ?_
                rintro e w11 ⟨rfl, hb⟩
                have T11 := Lib.hid (T10.out.later hb)
                clear hb T10 x1 x2 x3 x4
                go_wp2
                go_roundw
                case rel => exact ⟨x + 1, by go_num, by omega, by omega, T11.out⟩
                case measure => simp [RowKit.intOf]; omega
              · have hxyb : (x != y) = true := by simp [hxy]
                obtain ⟨⟨x1, x2⟩, ⟨x3, x4⟩⟩ := And.intro (And.intro (cellC11 T9.out.r1) (cellT11 T9.out.r1)) (And.intro (cellC11 T9.out.r2) (cellT11 T9.out.r2))
                go_wp2_with fail
                refine (impl_GcdMeet c ts HN.out.1 d us HN.out.2 _ _ _ T9.out.a1 T9.out.a2 true HS.out.1).mono ?_
                rintro e w10 ⟨rfl, hb⟩
                have T10 := Lib.hid (T9.out.later hb)
                clear hb T9 x1 x2 x3 x4
                obtain ⟨⟨x1, x2⟩, ⟨x3, x4⟩⟩ := And.intro (And.intro (cellC11 T10.out.r1) (cellT11 T10.out.r1)) (And.intro (cellC11 T10.out.r2) (cellT11 T10.out.r2))
                go_wp2_with fail
                refine (impl_RngMeet c ts (by have := HN.out; omega) d us (by have := HN.out; omega) [⟨nI, l0, h0⟩, ⟨nJ, l1, h1⟩, ⟨nK, l2, h2⟩] (by simp) _ _ _ _ T10.out.a1 T10.out.a2 T10.out.rr true HS.out.2.1).mono ?_
                rintro e w11 ⟨rfl, hb⟩
                have T11 := Lib.hid (T10.out.later hb)
                clear hb T10 x1 x2 x3 x4
                go_wp2
                go_roundw
                case rel => exact ⟨y + 1, by go_num, by omega, by omega, T11.out⟩
                case measure => simp [RowKit.intOf]; omega
          · go_wp2
            go_roundw
            case rel => exact ⟨x + 1, by go_num, by omega, by omega, HQ.out⟩
            case measure => simp [RowKit.intOf]; omega
      · go_wp2_with fail
        refine (impl_BoxOk [⟨nI, l0, h0⟩, ⟨nJ, l1, h1⟩, ⟨nK, l2, h2⟩] (by simp) _ _ HT.out.rr true BK.out).mono ?_
        rintro e w12 ⟨rfl, hb⟩
        have B12 := Lib.hid (BL.out _ (HT.out.later hb))
        clear hb
        go_wp2
        go_ret
        exact ⟨rfl, B12.out⟩
end Go.Proofs.YtjdpddcnogdekaaGreat
