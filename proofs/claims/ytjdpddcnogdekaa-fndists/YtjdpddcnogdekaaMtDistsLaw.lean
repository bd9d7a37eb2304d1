/-
  The walk of laws.FnDists.
-/
import Derived.Test.YtjdpddcnogdekaaP44ofDx
import Derived.Test.YtjdpddcnogdekaaP45ofDx
import Derived.Test.YtjdpddcnogdekaaP50ofDx
import Derived.Test.YtjdpddcnogdekaaB9P
namespace Go.Proofs.Ytjdpddcnogdekaa
open Go.RowKit Go.Lib
set_option linter.unusedSimpArgs false
set_option linter.unusedVariables false

theorem alone_coef {ts : List AR} {s u : ByteArray} (h : alone11 ts s = true) (hu : ¬ u = s) : coefA ts u = 0 := by
  match ts, h with
  | [], _ => rfl
  | [t], h =>
    have e : t.s = s := by simpa [alone11] using h
    rw [coefA, if_neg (fun e2 => hu (e2.symm.trans e))]; rfl
theorem alone_places {ts : List AR} {s : ByteArray} (h : alone11 ts s = true) : ∀ (rs : List RG) (L : List Int), rs.foldl (stepP11 ts s) L = L
  | [], _ => rfl
  | r :: rs, L => by
    have e : stepP11 ts s L r = L := by
      unfold stepP11
      by_cases hr : r.s = s
      · rw [if_pos (Or.inr hr)]
      · rw [if_pos (Or.inl (alone_coef h hr))]
    rw [List.foldl_cons, e, alone_places h rs L]
theorem told_box {l0 h0 l1 h1 l2 h2 : Int} (b0 : -1 ≤ l0 ∧ l0 ≤ 3 ∧ l0 ≤ h0 ∧ h0 ≤ l0 + 4) (b1 : -1 ≤ l1 ∧ l1 ≤ 3 ∧ l1 ≤ h1 ∧ h1 ≤ l1 + 4) (b2 : -1 ≤ l2 ∧ l2 ≤ 3 ∧ l2 ≤ h2 ∧ h2 ≤ l2 + 4) : told11 [⟨nI, l0, h0⟩, ⟨nJ, l1, h1⟩, ⟨nK, l2, h2⟩] = true := by
  have d1 := mul5 (a := h0 - l0 + 1) (b := h1 - l1 + 1) (A := 5) (by omega) (by omega)
  have d2 := mul5 (a := (h0 - l0 + 1) * (h1 - l1 + 1)) (b := h2 - l2 + 1) (A := 25) (by omega) (by omega)
  rw [told11, rounds3 b0 b1 b2, ← Int.mul_assoc]
  simp only [Bool.and_eq_true, decide_eq_true_eq]
  omega
theorem dist_inv {c d : Int} {ts us : List AR} {s : ByteArray} {dv : Int} {ok : Bool} (h : dist11 c ts d us s = (dv, ok)) :
    (ok = false ∧ dv = 0) ∨ (ok = true ∧ coefA ts s ≠ 0 ∧ coefA us s = coefA ts s ∧ alone11 ts s = true ∧ alone11 us s = true ∧ c - d = coefA ts s * dv) := by
  unfold dist11 at h
  split at h
  · rename_i hc
    obtain ⟨h1, h2, h3, h4, h5⟩ := hc
    injection h with e1 e2
    refine .inr ⟨e2.symm, h1, h2, h3, h4, ?_⟩
    have := Int.mul_tdiv_add_tmod (c - d) (coefA ts s)
    rw [h5, e1] at this; omega
  · injection h with e1 e2
    exact .inl ⟨e2.symm, e1.symm⟩
theorem meet_dist {c d : Int} {ts us : List AR} (hp : Small8 c ts) (hq : Small8 d us) {dv : Int} {s : ByteArray} (h1 : coefA ts s ≠ 0) (h2 : coefA us s = coefA ts s) (h3 : alone11 ts s = true) (h4 : alone11 us s = true) (h5 : c - d = coefA ts s * dv)
    {rs : List RG} (ht : told11 rs = true) {x y : Int} (hx : -20 ≤ x ∧ x ≤ 20) (hy : -20 ≤ y ∧ y ≤ 20) : meetAt11 c ts d us s x y rs = decide (y - x = dv) := by
  have hc := hp.1
  have hd := hq.1
  have m1 := mul_b9 (coefA_sm8 s ts hp.b4) hx
  have m2 := mul_b9 (coefA_sm8 s ts hp.b4) hy
  rw [meetAt11, ht, hp.ok, hq.ok, placesP11, placesP11, alone_places h3, alone_places h4, h2]
  generalize hn : coefA ts s = n at *
  have e1 : wrap64 (c + wrap64 (n * x)) = c + n * x := by
    generalize n * x = p at *; unfold wrap64; omega
  have e2 : wrap64 (d + wrap64 (n * y)) = d + n * y := by
    generalize n * y = p at *; unfold wrap64; omega
  rw [e1, e2]
  simp only [both11, List.any_cons, List.any_nil, Bool.or_false, Bool.true_and]
  refine decide_eq_decide.2 ?_
  have key : n * (y - x) = n * y - n * x := Int.mul_sub n y x
  constructor
  · intro e
    have : n * (y - x) = n * dv := by rw [key, ← h5]; omega
    exact Int.eq_of_mul_eq_mul_left h1 this
  · intro e
    subst e
    rw [key] at h5; omega
theorem small_names {c : Int} {ts : List AR} (h : Small8 c ts) : ∀ t ∈ ts, t.s.size ≤ 281474976710656 := by
  intro t ht
  obtain ⟨j, hj⟩ := h.nm t ht
  have : t.s ∈ nm3 := List.mem_of_getElem? hj
  simp only [nm3, List.mem_cons, List.not_mem_nil, or_false] at this
  rcases this with e | e | e <;> (rw [e]; decide)
/-- the first range's ends -/
theorem row0_11 {w : World} {g k4 : Nat} {r r1 r2 : RG} (h : RV w 0 (.slice (some ⟨g, 0, Option.none⟩) 3 k4) [r, r1, r2]) : w.cell? ⟨g, 1, Option.none⟩ = some (.int .i64 r.lo) ∧ w.cell? ⟨g, 2, Option.none⟩ = some (.int .i64 r.hi) := by
  obtain ⟨ao, cap, heq, _, hr⟩ := h
  injection heq with h1 _ h3
  subst h1
  rcases hr with hr | ⟨g2, off, hge, _, gl, hc⟩
  · cases hr
  · injection hge with hge
    injection hge with e1 e2
    subst e1; subst e2
    have := hc 0 r rfl
    exact ⟨by simpa using this.2.1, by simpa using this.2.2⟩
theorem big_is11 (a : Option Addr) (len cap : Nat) (w : World) : Calls Try.prog 7 #[.slice a len cap] w fun e w' => e = .returned (.bool (decide ((1048576 : Int) < (len : Int)))) ∧ w = w' := by
  go_enter Try.func7, Try.ntmps7
  go_wp2
  go_ret
  exact ⟨rfl, rfl⟩
set_option maxHeartbeats 8000000 in
set_option maxRecDepth 100000 in
theorem dists_walk (a : Option Addr) (len cap : Nat) (w : World) (hC : CodeIs w.heap.size w a len) :
    Calls Try.prog 3 #[.slice a len cap] w fun e w' => e = .returned (.bool true) ∧ Below w.heap.size w w' := by
  have HC := Lib.hid hC
  clear hC
  go_enter Try.func3, Try.ntmps3
  go_wp2_with fail
  refine (big_is11 a len cap _).mono ?_
  rintro e w0 ⟨rfl, rfl⟩
  by_cases hbig : (1048576 : Int) < (len : Int)
  · have hb1 : decide ((1048576 : Int) < (len : Int)) = true := decide_eq_true hbig
    rw [hb1]
    go_wp2
    go_ret
    exact ⟨rfl, Below.refl _ _⟩
  have hb1 : decide ((1048576 : Int) < (len : Int)) = false := decide_eq_false hbig
  rw [hb1]
  have hlen : len ≤ 281474976710656 := by omega
  clear hb1 hbig
  go_wp2_with fail
  refine (DrawMeets_own a len cap _ hlen HC.out).mono ?_
  rintro e w1 ⟨c, ts, d, us, rs, v, v2, u, rfl, p1, p2, p3, own1, own2, own3, hb⟩
  obtain ⟨a1, c1, rfl⟩ := ownShape own1
  obtain ⟨a2, c2, rfl⟩ := ownShape own2
  obtain ⟨l0, h0, l1, h1, l2, h2, rfl, b0, b1, b2⟩ := box3 p3
  obtain ⟨g, k4, rfl⟩ : ∃ g oc, u = .slice (some ⟨g, 0, Option.none⟩) 3 oc := by
    rcases own3.2 with ⟨_, h1⟩ | ⟨g, cap, cur, h1, _⟩
    · simp at h1
    · exact ⟨g, cap, h1⟩
  have hr4 := (RV.ofOwn9 (k := 3) (rs := [⟨nI, l0, h0⟩, ⟨nJ, l1, h1⟩, ⟨nK, l2, h2⟩]) own3 rfl (Nat.le_refl _)).low
  have T1 := Two11.start w1 c d 26 (AV.ofOwn8 own1) (AV.ofOwn8 own2) hr4
  have P := Lib.hid (And.intro p1 p2)
  have LO := Lib.hid hb
  have TB := Lib.hid (told_box b0 b1 b2)
  have hbnd : -1 ≤ l0 ∧ l0 ≤ 3 ∧ l0 ≤ h0 ∧ h0 ≤ l0 + 4 := b0
  clear b0 b1 b2 p1 p2 p3 own1 own2 own3 hb hr4 HC hlen
  obtain ⟨W1, hW1⟩ : ∃ W, Hid (W = (w1.alloc (.cells #[.int .i64 c, .slice a1 ts.length c1] 26)).alloc (.cells #[.int .i64 d, .slice a2 us.length c2] 26)) := ⟨_, rfl⟩
  obtain ⟨⟨x1, x2⟩, ⟨x3, x4⟩⟩ := And.intro (And.intro (cellC11 T1.r1) (cellT11 T1.r1)) (And.intro (cellC11 T1.r2) (cellT11 T1.r2))
  rw [← hW1.out] at T1
  have T2 := Lib.hid T1
  clear T1
  obtain ⟨dv, ok, hD⟩ : ∃ dv ok, Hid (dist11 c ts d us ⟨#[105]⟩ = (dv, ok)) := ⟨_, _, rfl⟩
  have HN : Hid (ts.length ≤ 10000000 ∧ us.length ≤ 10000000) := show _ ∧ _ from ⟨by have := P.out.1.2.2.1; omega, by have := P.out.2.2.2.1; omega⟩
  have BL := Lib.hid (fun (wz : World) (h : Two11 w1 wz w1.heap.size (w1.heap.size + 1) c d (.slice a1 ts.length c1) (.slice a2 us.length c2) (.slice (some ⟨g, 0, Option.none⟩) 3 k4) ts us [⟨nI, l0, h0⟩, ⟨nJ, l1, h1⟩, ⟨nK, l2, h2⟩]) => LO.out.trans (h.low.mono LO.out.size))
  rcases dist_inv hD.out with ⟨rfl, rfl⟩ | ⟨rfl, g1, g2, g3, g4, g5⟩
  ·
    go_wp2_with fail
    rw [← hW1.out]
    clear x1 x2 x3 x4 hW1
    refine (impl_DistOf c ts HN.out.1 (small_names P.out.1) d us HN.out.2 (small_names P.out.2) ⟨#[105]⟩ P.out.1.ok P.out.2.ok _ _ _ T2.out.a1 T2.out.a2 (0, false) hD.out).mono ?_
    rintro e w2 ⟨rfl, hb1⟩
    have T3 := Lib.hid (T2.out.later hb1)
    clear hb1 T2
    simp only [distR]
    obtain ⟨⟨x1, x2⟩, ⟨x3, x4⟩⟩ := And.intro (And.intro (cellC11 T3.out.r1) (cellT11 T3.out.r1)) (And.intro (cellC11 T3.out.r2) (cellT11 T3.out.r2))
    go_wp2_with fail
    refine (distOf_is c ts HN.out.1 (small_names P.out.1) d us HN.out.2 (small_names P.out.2) P.out.1.ok P.out.2.ok 0 false hD.out _ _ _ T3.out.a1 T3.out.a2).mono ?_
    rintro e w3 ⟨rfl, hb1⟩
    have T4 := Lib.hid (T3.out.later hb1)
    clear hb1 T3 x1 x2 x3 x4
    obtain ⟨⟨x1, x2⟩, ⟨x3, x4⟩⟩ := And.intro (And.intro (cellC11 T4.out.r1) (cellT11 T4.out.r1)) (And.intro (cellC11 T4.out.r2) (cellT11 T4.out.r2))
    go_wp2_with fail
    refine (hasDist_is c ts HN.out.1 (small_names P.out.1) d us HN.out.2 (small_names P.out.2) P.out.1.ok P.out.2.ok 0 false hD.out _ _ _ T4.out.a1 T4.out.a2).mono ?_
    rintro e w4 ⟨rfl, hb1⟩
    have T5 := Lib.hid (T4.out.later hb1)
    clear hb1 T4 x1 x2 x3 x4
    obtain ⟨z1, z2⟩ := row0_11 T5.out.rr
    go_wp2
    clear z1 z2
    go_loopw [8] (fun i wr => i = .int .i64 l0 ∧ Hid (Two11 w1 wr w1.heap.size (w1.heap.size + 1) c d (.slice a1 ts.length c1) (.slice a2 us.length c2) (.slice (some ⟨g, 0, Option.none⟩) 3 k4) ts us [⟨nI, l0, h0⟩, ⟨nJ, l1, h1⟩, ⟨nK, l2, h2⟩])) (fun _ _ => 0)
    case atStart => exact ⟨rfl, T5.out⟩
    case round =>
      obtain ⟨rfl, HT⟩ := hrel
      obtain ⟨z1, z2⟩ := row0_11 HT.out.rr
      have hle : l0 ≤ h0 := by omega
      go_wp2
      go_ret
      exact ⟨rfl, BL.out _ HT.out⟩
  ·
    have MD := Lib.hid (fun (x y : Int) (hx : -20 ≤ x ∧ x ≤ 20) (hy : -20 ≤ y ∧ y ≤ 20) => meet_dist P.out.1 P.out.2 g1 g2 g3 g4 g5 TB.out hx hy)
    clear g1 g2 g3 g4 g5
    go_wp2_with fail
    rw [← hW1.out]
    clear x1 x2 x3 x4 hW1
    refine (impl_DistOf c ts HN.out.1 (small_names P.out.1) d us HN.out.2 (small_names P.out.2) ⟨#[105]⟩ P.out.1.ok P.out.2.ok _ _ _ T2.out.a1 T2.out.a2 (dv, true) hD.out).mono ?_
    rintro e w2 ⟨rfl, hb1⟩
    have T3 := Lib.hid (T2.out.later hb1)
    clear hb1 T2
    simp only [distR]
    obtain ⟨⟨x1, x2⟩, ⟨x3, x4⟩⟩ := And.intro (And.intro (cellC11 T3.out.r1) (cellT11 T3.out.r1)) (And.intro (cellC11 T3.out.r2) (cellT11 T3.out.r2))
    go_wp2_with fail
    refine (distOf_is c ts HN.out.1 (small_names P.out.1) d us HN.out.2 (small_names P.out.2) P.out.1.ok P.out.2.ok dv true hD.out _ _ _ T3.out.a1 T3.out.a2).mono ?_
    rintro e w3 ⟨rfl, hb1⟩
    have T4 := Lib.hid (T3.out.later hb1)
    clear hb1 T3 x1 x2 x3 x4
    obtain ⟨⟨x1, x2⟩, ⟨x3, x4⟩⟩ := And.intro (And.intro (cellC11 T4.out.r1) (cellT11 T4.out.r1)) (And.intro (cellC11 T4.out.r2) (cellT11 T4.out.r2))
    go_wp2_with fail
    refine (hasDist_is c ts HN.out.1 (small_names P.out.1) d us HN.out.2 (small_names P.out.2) P.out.1.ok P.out.2.ok dv true hD.out _ _ _ T4.out.a1 T4.out.a2).mono ?_
    rintro e w4 ⟨rfl, hb1⟩
    have T5 := Lib.hid (T4.out.later hb1)
    clear hb1 T4 x1 x2 x3 x4
    obtain ⟨z1, z2⟩ := row0_11 T5.out.rr
    go_wp2
    clear z1 z2
    go_loopw [8] (fun i wr => ∃ x : Int, i = .int .i64 x ∧ l0 ≤ x ∧ x ≤ h0 + 1 ∧ Hid (Two11 w1 wr w1.heap.size (w1.heap.size + 1) c d (.slice a1 ts.length c1) (.slice a2 us.length c2) (.slice (some ⟨g, 0, Option.none⟩) 3 k4) ts us [⟨nI, l0, h0⟩, ⟨nJ, l1, h1⟩, ⟨nK, l2, h2⟩])) (fun i _ => (h0 + 1 - RowKit.intOf i).toNat)
    case atStart => exact ⟨l0, rfl, by omega, by omega, T5.out⟩
    case round =>
      obtain ⟨x, rfl, hx0, hx1, HT⟩ := hrel
      obtain ⟨z1, z2⟩ := row0_11 HT.out.rr
      by_cases hx : x ≤ h0
      · go_wp2
        clear z1 z2
        go_loopw [9] (fun k wq => ∃ y : Int, k = .int .i64 y ∧ l0 ≤ y ∧ y ≤ h0 + 1 ∧ Hid (Two11 w1 wq w1.heap.size (w1.heap.size + 1) c d (.slice a1 ts.length c1) (.slice a2 us.length c2) (.slice (some ⟨g, 0, Option.none⟩) 3 k4) ts us [⟨nI, l0, h0⟩, ⟨nJ, l1, h1⟩, ⟨nK, l2, h2⟩])) (fun k _ => (h0 + 1 - RowKit.intOf k).toNat)
        case atStart => exact ⟨l0, rfl, by omega, by omega, HT.out⟩
        case round =>
          obtain ⟨y, rfl, hy0, hy1, HQ⟩ := hrel
          obtain ⟨z1, z2⟩ := row0_11 HQ.out.rr
          by_cases hy : y ≤ h0
          · obtain ⟨⟨x1, x2⟩, ⟨x3, x4⟩⟩ := And.intro (And.intro (cellC11 HQ.out.r1) (cellT11 HQ.out.r1)) (And.intro (cellC11 HQ.out.r2) (cellT11 HQ.out.r2))
            go_wp2_with fail
            refine (impl_MeetAt c ts HN.out.1 d us HN.out.2 ⟨#[105]⟩ x y [⟨nI, l0, h0⟩, ⟨nJ, l1, h1⟩, ⟨nK, l2, h2⟩] (by simp) _ _ _ _ HQ.out.a1 HQ.out.a2 HQ.out.rr (decide (y - x = dv)) (MD.out x y (by omega) (by omega))).mono ?_
            rintro e w9 ⟨rfl, hb⟩
            have T9 := Lib.hid (HQ.out.later hb)
            clear hb x1 x2 x3 x4 z1 z2
            by_cases hyx : y - x = dv
            · rw [decide_eq_true hyx]
              have hq : ((y - x) == dv) = true := by simp [hyx]
              have HYX := Lib.hid hyx
              clear hyx
              go_wp2
              go_roundw
              case rel => exact ⟨y + 1, by go_num, by omega, by omega, T9.out⟩
              case measure => simp [RowKit.intOf]; omega
            · rw [decide_eq_false hyx]
              have hq : ((y - x) == dv) = false := by simp [hyx]
              have HYX := Lib.hid hyx
              clear hyx
              go_wp2
              go_roundw
              case rel => exact ⟨y + 1, by go_num, by omega, by omega, T9.out⟩
              case measure => simp [RowKit.intOf]; omega
          · go_wp2
            go_roundw
            case rel => exact ⟨x + 1, by go_num, by omega, by omega, HQ.out⟩
            case measure => simp [RowKit.intOf]; omega
      · go_wp2
        go_ret
        exact ⟨rfl, BL.out _ HT.out⟩
end Go.Proofs.Ytjdpddcnogdekaa
