/-
  The walk of laws.FnBoxes.
-/
import Derived.Test.YthecjaonbmefgaaB9P
import Derived.Test.YthecjaonbmefgaaB9DrawX
import Derived.Test.YthecjaonbmefgaaEndTop
import Derived.Test.YthecjaonbmefgaaBoxOkI
import Derived.Test.YthecjaonbmefgaaRounds
import Derived.Test.YthecjaonbmefgaaAffAtI
namespace Go.Proofs.Ythecjaonbmefgaa
open Go.RowKit Go.Lib
set_option linter.unusedSimpArgs false
set_option linter.unusedVariables false

theorem at_is9 (B : Nat) (a : Option Addr) (len cap i : Nat) (w : World) (hlen : len ≤ 1048576) (hi : i ≤ 1000) (hC : CodeIs B w a len) :
    Calls Try.prog 10 #[.slice a len cap, .int .i64 i] w fun e w' => ∃ x : Int, e = .returned (.int .i64 x) ∧ 0 ≤ x ∧ x ≤ 255 ∧ w = w' := by
  by_cases hlt : i < len
  · obtain ⟨cb, off, z, rfl, hcb, hz, z0, z1⟩ := hC i hlt
    go_enter Try.func10, Try.ntmps10
    go_wp2
    go_ret
    exact ⟨z, rfl, z0, z1, rfl⟩
  · go_enter Try.func10, Try.ntmps10
    go_wp2
    go_ret
    exact ⟨_, rfl, by omega, by omega, rfl⟩
/-- Ahead of where the rounds are. -/
def Bf9 (X Y Z x y z : Int) : Prop := X < x ∨ (X = x ∧ (Y < y ∨ (Y = y ∧ Z < z)))
theorem seen9 {b : Bool} {X Y Z x y z A v : Int} (hs : Bf9 X Y Z x y z → b = true) (he : X = x → Y = y → Z = z → A = v) (hn : ¬ A = v) : Bf9 X Y Z x y (z + 1) → b = true := by
  intro h
  unfold Bf9 at h hs
  by_cases h1 : X < x ∨ (X = x ∧ (Y < y ∨ (Y = y ∧ Z < z)))
  · exact hs h1
  · exact absurd (he (by omega) (by omega) (by omega)) hn
theorem seen_on9 {b : Bool} {X Y Z x y z z' : Int} (hs : Bf9 X Y Z x y z → b = true) (hz : Z < z) (hz' : z' ≤ Z) : Bf9 X Y Z x (y + 1) z' → b = true := by
  intro h; apply hs; unfold Bf9 at h ⊢; omega
theorem seen_up9 {b : Bool} {X Y Z x y z y' z' : Int} (hs : Bf9 X Y Z x y z → b = true) (hy : Y < y) (hy' : y' ≤ Y) (hz' : z' ≤ Z) : Bf9 X Y Z (x + 1) y' z' → b = true := by
  intro h; apply hs; unfold Bf9 at h ⊢; omega
theorem step_mul9 (a d : Int) : (a + 1) * d = a * d + d := by rw [Int.add_mul, Int.one_mul]
theorem inArr_is9 {c : Int} {ts : List AR} {rs : List RG} {lo hi sz : Int} (h1 : far9 false c ts rs = some lo) (h2 : far9 true c ts rs = some hi) : inArr9 c ts rs sz = (decide (lo ≥ 0) && decide (hi < sz)) := by
  unfold far9 at h1 h2
  unfold inArr9
  split at h1
  · rename_i hc
    rw [if_pos hc] at h2 ⊢
    have e1 := Option.some.inj h1
    have e2 := Option.some.inj h2
    rw [e1, e2]
  · cases h1
set_option maxHeartbeats 8000000 in
set_option maxRecDepth 100000 in
theorem boxes_walk (a : Option Addr) (len cap : Nat) (w : World) (hC : CodeIs w.heap.size w a len) :
    Calls Try.prog 3 #[.slice a len cap] w fun e w' => e = .returned (.bool true) ∧ Below w.heap.size w w' := by
  have HC := Lib.hid hC
  clear hC
  go_enter Try.func3, Try.ntmps3
  go_wp2_with fail
  refine (big_is a len cap _).mono ?_
  rintro e w0 ⟨rfl, rfl⟩
  by_cases hbig : (1048576 : Int) < (len : Int)
  · have hb1 : decide ((1048576 : Int) < (len : Int)) = true := decide_eq_true hbig
    rw [hb1]
    go_wp2
    go_ret
    exact ⟨rfl, Below.refl _ _⟩
  have hb1 : decide ((1048576 : Int) < (len : Int)) = false := decide_eq_false hbig
  rw [hb1]
  have hlen1 : len ≤ 1048576 := by omega
  have hlen : len ≤ 281474976710656 := by omega
  clear hb1 hbig
  have LO := Lib.hid (Below.refl w.heap.size w)
  go_wp2_with fail
  refine (DrawBox_own a len cap _ hlen HC.out).mono ?_
  rintro e w1 ⟨c, ts, rs, v, u, rfl, p3, p4, own0, own1, hb⟩
  obtain ⟨a3, k3, rfl⟩ := ownShape own0
  obtain ⟨l0, h0, l1, h1, l2, h2, rfl, b0, b1, b2⟩ := box3 p4
  obtain ⟨g, k4, rfl⟩ : ∃ g oc, u = .slice (some ⟨g, 0, Option.none⟩) 3 oc := by
    rcases own1.2 with ⟨_, h1⟩ | ⟨g, cap, cur, h1, _⟩
    · simp at h1
    · exact ⟨g, cap, h1⟩
  have hr4 := (RV.ofOwn9 (k := 3) (rs := [⟨nI, l0, h0⟩, ⟨nJ, l1, h1⟩, ⟨nK, l2, h2⟩]) own1 rfl (Nat.le_refl _)).low
  have LO_1 := Lib.hid (LO.out.trans (hb.mono LO.out.size))
  clear LO 
  have O3 := Lib.hid own0
  have O4 : Hid (w1.ownsRow w.heap.size 33 3 (.slice (some ⟨g, 0, Option.none⟩) 3 k4) 3 (rcells8 [⟨nI, l0, h0⟩, ⟨nJ, l1, h1⟩, ⟨nK, l2, h2⟩])) := own1
  have R4 : Hid (RV w1 0 (.slice (some ⟨g, 0, Option.none⟩) 3 k4) [⟨nI, l0, h0⟩, ⟨nJ, l1, h1⟩, ⟨nK, l2, h2⟩]) := hr4
  have P3 := Lib.hid p3
  clear hb own0 own1 p3 p4 hr4
  have ba := alloc_below w1 (.cells #[.int .i64 c, .slice a3 ts.length k3] 26)
  have hh := heap_last w1 (.cells #[.int .i64 c, .slice a3 ts.length k3] 26)
  obtain ⟨⟨y0, y1⟩, _⟩ := blk2 hh
  obtain ⟨W1, hW1⟩ : ∃ W, Hid (W = w1.alloc (.cells #[.int .i64 c, .slice a3 ts.length k3] 26)) := ⟨_, rfl⟩
  rw [← hW1.out] at ba hh
  go_wp2_with fail
  rw [← hW1.out]
  have R4_2 := Lib.hid (R4.out.later ba)
  have LO_2 := Lib.hid (LO_1.out.trans (ba.mono LO_1.out.size))
  have O3_2 := Lib.hid (own_below8 O3.out ba)
  have O4_2 := Lib.hid (own_below8 O4.out ba)
  clear LO_1 O3 O4 y0 y1 R4
  have B3 := Lib.hid hh
  clear ba hh hW1
  obtain ⟨vL, X0, Y0, Z0, eL, hL⟩ := ends3 P3.out b0 b1 b2 false
  obtain ⟨vM, X1, Y1, Z1, eM, hM⟩ := ends3 P3.out b0 b1 b2 true
  have EL := Lib.hid eL
  have EM := Lib.hid eM
  have HL := Lib.hid hL
  have HM := Lib.hid hM
  have hle : vL ≤ vM := by have := hM.bd X0 Y0 Z0 hL.x hL.y hL.z; rw [if_pos rfl, hL.is] at this; exact this
  have hle2 : ¬ vM < vL := by omega
  have HLr := Lib.hid hL.rg
  have HMr := Lib.hid hM.rg
  clear eL eM hL hM
  refine (impl_Least c ts (by have := P3.out.2.2.1; omega) [⟨nI, l0, h0⟩, ⟨nJ, l1, h1⟩, ⟨nK, l2, h2⟩] (by simp) _ _ _ (AV.ofOwn8 O3_2.out) R4_2.out).mono ?_
  rintro e w2 ⟨he, hb⟩
  obtain rfl : e = .returned (.tuple #[.int .i64 vL, .bool true]) := he.trans (by rw [EL.out]; rfl)
  clear he
  have R4_3 := Lib.hid (R4_2.out.later hb)
  have LO_3 := Lib.hid (LO_2.out.trans (hb.mono LO_2.out.size))
  have O3_3 := Lib.hid (own_below8 O3_2.out hb)
  have O4_3 := Lib.hid (own_below8 O4_2.out hb)
  have B3_3 := Lib.hid (heap_b8 B3.out hb)
  clear LO_2 O3_2 O4_2 B3 hb R4_2
  obtain ⟨⟨y0, y1⟩, _⟩ := blk2 B3_3.out
  go_wp2_with fail
  refine (impl_Most c ts (by have := P3.out.2.2.1; omega) [⟨nI, l0, h0⟩, ⟨nJ, l1, h1⟩, ⟨nK, l2, h2⟩] (by simp) _ _ _ (AV.ofOwn8 O3_3.out) R4_3.out).mono ?_
  rintro e w3 ⟨he, hb⟩
  obtain rfl : e = .returned (.tuple #[.int .i64 vM, .bool true]) := he.trans (by rw [EM.out]; rfl)
  clear he
  have R4_4 := Lib.hid (R4_3.out.later hb)
  have LO_4 := Lib.hid (LO_3.out.trans (hb.mono LO_3.out.size))
  have O3_4 := Lib.hid (own_below8 O3_3.out hb)
  have O4_4 := Lib.hid (own_below8 O4_3.out hb)
  have B3_4 := Lib.hid (heap_b8 B3_3.out hb)
  clear LO_3 O3_3 O4_3 B3_3 hb y0 y1 R4_3
  have q1 := (cells_own8 O4_4.out (j := 1) (u := .int .i64 l0) rfl).1
  obtain ⟨d2, hd2⟩ : ∃ d, h2 - l2 + 1 = d := ⟨_, rfl⟩
  obtain ⟨D12, hD12⟩ : ∃ D, (h1 - l1 + 1) * d2 = D := ⟨_, rfl⟩
  have HD2 := Lib.hid hd2
  have HD12 := Lib.hid hD12
  clear hd2 hD12
  go_wp2
  clear q1
  have LW3 : Hid (Below w3.heap.size w3 w3) := Below.refl _ _
  go_loopw [9, 10, 11, 12] (fun sl sh n i wr => ∃ (bl bh : Bool) (nn x : Int), sl = .bool bl ∧ sh = .bool bh ∧ n = .int .i64 nn ∧ i = .int .i64 x ∧ l0 ≤ x ∧ x ≤ h0 + 1 ∧ Hid (nn = (x - l0) * D12) ∧ Hid (0 ≤ nn ∧ nn ≤ 25 * (x - l0)) ∧ Hid (Bf9 X0 Y0 Z0 x l1 l2 → bl = true) ∧ Hid (Bf9 X1 Y1 Z1 x l1 l2 → bh = true) ∧ Below w3.heap.size w3 wr) (fun _ _ _ i _ => (h0 + 1 - RowKit.intOf i).toNat)
  case atStart => exact ⟨false, false, 0, l0, rfl, rfl, rfl, rfl, by omega, by omega, (by show (0 : Int) = (l0 - l0) * D12; rw [Int.sub_self, Int.zero_mul]), (by show (0 : Int) ≤ 0 ∧ (0 : Int) ≤ 25 * (l0 - l0); omega), (fun h => by have := HL.out.x; have := HL.out.y; have := HL.out.z; unfold Bf9 at h; omega), (fun h => by have := HM.out.x; have := HM.out.y; have := HM.out.z; unfold Bf9 at h; omega), Below.refl _ _⟩
  case round =>
    obtain ⟨bl, bh, nn, x, rfl, rfl, rfl, rfl, hlo0, hhi0, HN, HB, HSL, HSH, hbr⟩ := hrel
    have HBR := Lib.hid hbr
    have OW := own_below8 O4_4.out hbr
    have q2 := (cells_own8 OW (j := 2) (u := .int .i64 h0) rfl).1
    have q4 := (cells_own8 OW (j := 4) (u := .int .i64 l1) rfl).1
    clear OW hbr
    by_cases hc0 : x ≤ h0
    ·
      go_wp2
      clear q2 q4
      go_loopw [9, 10, 11, 13] (fun sl sh n i wr => ∃ (bl bh : Bool) (nn y : Int), sl = .bool bl ∧ sh = .bool bh ∧ n = .int .i64 nn ∧ i = .int .i64 y ∧ l1 ≤ y ∧ y ≤ h1 + 1 ∧ Hid (nn = (x - l0) * D12 + (y - l1) * d2) ∧ Hid (0 ≤ nn ∧ nn ≤ 25 * (x - l0) + 5 * (y - l1)) ∧ Hid (Bf9 X0 Y0 Z0 x y l2 → bl = true) ∧ Hid (Bf9 X1 Y1 Z1 x y l2 → bh = true) ∧ Below w3.heap.size w3 wr) (fun _ _ _ i _ => (h1 + 1 - RowKit.intOf i).toNat)
      case atStart => exact ⟨bl, bh, nn, l1, rfl, rfl, rfl, rfl, by omega, by omega, (by have h := HN.out; show nn = (x - l0) * D12 + (l1 - l1) * d2; rw [Int.sub_self, Int.zero_mul]; omega), (by have h := HB.out; show 0 ≤ nn ∧ nn ≤ 25 * (x - l0) + 5 * (l1 - l1); omega), HSL.out, HSH.out, HBR.out⟩
      case round =>
        clear HN HB HSL HSH HBR
        obtain ⟨bl, bh, nn, y, rfl, rfl, rfl, rfl, hlo1, hhi1, HN, HB, HSL, HSH, hbr⟩ := hrel
        have HBR := Lib.hid hbr
        have OW := own_below8 O4_4.out hbr
        have q5 := (cells_own8 OW (j := 5) (u := .int .i64 h1) rfl).1
        have q7 := (cells_own8 OW (j := 7) (u := .int .i64 l2) rfl).1
        clear OW hbr
        by_cases hc1 : y ≤ h1
        ·
          go_wp2
          clear q5 q7
          go_loopw [9, 10, 11, 14] (fun sl sh n i wr => ∃ (bl bh : Bool) (nn z : Int), sl = .bool bl ∧ sh = .bool bh ∧ n = .int .i64 nn ∧ i = .int .i64 z ∧ l2 ≤ z ∧ z ≤ h2 + 1 ∧ Hid (nn = (x - l0) * D12 + (y - l1) * d2 + (z - l2)) ∧ Hid (0 ≤ nn ∧ nn ≤ 25 * (x - l0) + 5 * (y - l1) + (z - l2)) ∧ Hid (Bf9 X0 Y0 Z0 x y z → bl = true) ∧ Hid (Bf9 X1 Y1 Z1 x y z → bh = true) ∧ Below w3.heap.size w3 wr) (fun _ _ _ i _ => (h2 + 1 - RowKit.intOf i).toNat)
          case atStart => exact ⟨bl, bh, nn, l2, rfl, rfl, rfl, rfl, by omega, by omega, (by have h := HN.out; show nn = (x - l0) * D12 + (y - l1) * d2 + (l2 - l2); omega), (by have h := HB.out; show 0 ≤ nn ∧ nn ≤ 25 * (x - l0) + 5 * (y - l1) + (l2 - l2); omega), HSL.out, HSH.out, HBR.out⟩
          case round =>
            clear HN HB HSL HSH HBR
            obtain ⟨bl, bh, nn, z, rfl, rfl, rfl, rfl, hlo2, hhi2, HN, HB, HSL, HSH, hbr⟩ := hrel
            have HBR := Lib.hid hbr
            have OW := own_below8 O4_4.out hbr
            have q8 := (cells_own8 OW (j := 8) (u := .int .i64 h2) rfl).1
            by_cases hc2 : z ≤ h2
            ·
              have hn0 := HB.out.1
              have hn1 : nn ≤ 300 := by have := HB.out.2; omega
              have OWH := Lib.hid OW
              have BR3 := Lib.hid (heap_b8 B3_4.out hbr)
              have TR3 := Lib.hid (own_below8 O3_4.out hbr)
              clear OW hbr
              go_wp2_with fail
              clear q8
              have bd : Below wr.heap.size wr wr.drew := (Below.refl _ wr).drew
              obtain ⟨wd, Wd⟩ : ∃ W, Hid (W = wr.drew) := ⟨_, rfl⟩
              refine wp_region_held_drew (S := Below wr.heap.size wr) (by kernel_rfl) bd (fun hHeld => ?_)
              rw [← Wd.out] at hHeld ⊢
              clear bd Wd
              refine wpAnyH_take (i := 0) (v := .agg #[.int .i64 c, .slice a3 ts.length k3]) rfl (by kernel_rfl) (by kernel_rfl) (by kernel_rfl) (fun _ _ _ h => h) (Or.inl ⟨by rfl, ?yz0⟩) hHeld ?_
              case yz0 => intro w hSw; obtain ⟨⟨j0, j1⟩, _⟩ := blk2 ((hSw.block _ (lt_of_heap BR3.out)).trans BR3.out); go_simp
              simp only [Act.put, List.getElem_toArray, List.getElem_cons_succ, List.getElem_cons_zero, List.setIfInBounds_toArray, List.set_cons_zero, List.set_cons_succ]
              refine wpAnyH_take (i := 1) (v := .slice (some ⟨g, 0, Option.none⟩) 3 k4) rfl (by kernel_rfl) (by kernel_rfl) (by kernel_rfl) (fun _ _ _ h => h) (Or.inl ⟨by rfl, ?yz1⟩) hHeld ?_
              case yz1 => intro w hSw; go_simp
              simp only [Act.put, List.getElem_toArray, List.getElem_cons_succ, List.getElem_cons_zero, List.setIfInBounds_toArray, List.set_cons_zero, List.set_cons_succ]
              refine wpAnyH_take (i := 2) (v := .pointer (some ⟨g, 0, Option.none⟩)) rfl (by kernel_rfl) (by kernel_rfl) (by kernel_rfl) (fun _ _ _ h => h) (Or.inl ⟨by rfl, ?yz2⟩) hHeld ?_
              case yz2 => intro w hSw; go_simp
              simp only [Act.put, List.getElem_toArray, List.getElem_cons_succ, List.getElem_cons_zero, List.setIfInBounds_toArray, List.set_cons_zero, List.set_cons_succ]
              refine wpAnyH_take (i := 3) (v := .pointer (some ⟨g, 0, Option.none⟩)) rfl (by kernel_rfl) (by kernel_rfl) (by kernel_rfl) (fun _ _ _ h => h) (Or.inl ⟨by rfl, ?yz3⟩) hHeld ?_
              case yz3 => intro w hSw; go_simp
              simp only [Act.put, List.getElem_toArray, List.getElem_cons_succ, List.getElem_cons_zero, List.setIfInBounds_toArray, List.set_cons_zero, List.set_cons_succ]
              refine wpAnyH_take (i := 4) (v := .string nI) rfl (by kernel_rfl) (by kernel_rfl) (by kernel_rfl) (fun _ _ _ h => h) (Or.inl ⟨by rfl, ?yz4⟩) hHeld ?_
              case yz4 => intro w hSw; have q := (cells_own8 (own_below8 OWH.out hSw) (j := 0) (u := .string nI) rfl).1; go_simp
              simp only [Act.put, List.getElem_toArray, List.getElem_cons_succ, List.getElem_cons_zero, List.setIfInBounds_toArray, List.set_cons_zero, List.set_cons_succ]
              refine wpAnyH_take (i := 5) (v := .int .i64 x) rfl (by kernel_rfl) (by kernel_rfl) (by kernel_rfl) (fun _ _ _ h => h) (Or.inl ⟨by rfl, ?yz5⟩) hHeld ?_
              case yz5 => intro w hSw; go_simp
              simp only [Act.put, List.getElem_toArray, List.getElem_cons_succ, List.getElem_cons_zero, List.setIfInBounds_toArray, List.set_cons_zero, List.set_cons_succ]
              refine wpAnyH_take (i := 6) (v := .agg #[.string nI, .int .i64 x]) rfl (by kernel_rfl) (by kernel_rfl) (by kernel_rfl) (fun _ _ _ h => h) (Or.inl ⟨by rfl, ?yz6⟩) hHeld ?_
              case yz6 => intro w hSw; go_simp
              simp only [Act.put, List.getElem_toArray, List.getElem_cons_succ, List.getElem_cons_zero, List.setIfInBounds_toArray, List.set_cons_zero, List.set_cons_succ]
              refine wpAnyH_take (i := 7) (v := .slice (some ⟨g, 0, Option.none⟩) 3 k4) rfl (by kernel_rfl) (by kernel_rfl) (by kernel_rfl) (fun _ _ _ h => h) (Or.inl ⟨by rfl, ?yz7⟩) hHeld ?_
              case yz7 => intro w hSw; go_simp
              simp only [Act.put, List.getElem_toArray, List.getElem_cons_succ, List.getElem_cons_zero, List.setIfInBounds_toArray, List.set_cons_zero, List.set_cons_succ]
              refine wpAnyH_take (i := 8) (v := .pointer (some ⟨g, 3, Option.none⟩)) rfl (by kernel_rfl) (by kernel_rfl) (by kernel_rfl) (fun _ _ _ h => h) (Or.inl ⟨by rfl, ?yz8⟩) hHeld ?_
              case yz8 => intro w hSw; go_simp
              simp only [Act.put, List.getElem_toArray, List.getElem_cons_succ, List.getElem_cons_zero, List.setIfInBounds_toArray, List.set_cons_zero, List.set_cons_succ]
              refine wpAnyH_take (i := 9) (v := .pointer (some ⟨g, 3, Option.none⟩)) rfl (by kernel_rfl) (by kernel_rfl) (by kernel_rfl) (fun _ _ _ h => h) (Or.inl ⟨by rfl, ?yz9⟩) hHeld ?_
              case yz9 => intro w hSw; go_simp
              simp only [Act.put, List.getElem_toArray, List.getElem_cons_succ, List.getElem_cons_zero, List.setIfInBounds_toArray, List.set_cons_zero, List.set_cons_succ]
              refine wpAnyH_take (i := 10) (v := .string nJ) rfl (by kernel_rfl) (by kernel_rfl) (by kernel_rfl) (fun _ _ _ h => h) (Or.inl ⟨by rfl, ?yz10⟩) hHeld ?_
              case yz10 => intro w hSw; have q := (cells_own8 (own_below8 OWH.out hSw) (j := 3) (u := .string nJ) rfl).1; go_simp
              simp only [Act.put, List.getElem_toArray, List.getElem_cons_succ, List.getElem_cons_zero, List.setIfInBounds_toArray, List.set_cons_zero, List.set_cons_succ]
              refine wpAnyH_take (i := 11) (v := .int .i64 y) rfl (by kernel_rfl) (by kernel_rfl) (by kernel_rfl) (fun _ _ _ h => h) (Or.inl ⟨by rfl, ?yz11⟩) hHeld ?_
              case yz11 => intro w hSw; go_simp
              simp only [Act.put, List.getElem_toArray, List.getElem_cons_succ, List.getElem_cons_zero, List.setIfInBounds_toArray, List.set_cons_zero, List.set_cons_succ]
              refine wpAnyH_take (i := 12) (v := .agg #[.string nJ, .int .i64 y]) rfl (by kernel_rfl) (by kernel_rfl) (by kernel_rfl) (fun _ _ _ h => h) (Or.inl ⟨by rfl, ?yz12⟩) hHeld ?_
              case yz12 => intro w hSw; go_simp
              simp only [Act.put, List.getElem_toArray, List.getElem_cons_succ, List.getElem_cons_zero, List.setIfInBounds_toArray, List.set_cons_zero, List.set_cons_succ]
              refine wpAnyH_take (i := 13) (v := .slice (some ⟨g, 0, Option.none⟩) 3 k4) rfl (by kernel_rfl) (by kernel_rfl) (by kernel_rfl) (fun _ _ _ h => h) (Or.inl ⟨by rfl, ?yz13⟩) hHeld ?_
              case yz13 => intro w hSw; go_simp
              simp only [Act.put, List.getElem_toArray, List.getElem_cons_succ, List.getElem_cons_zero, List.setIfInBounds_toArray, List.set_cons_zero, List.set_cons_succ]
              refine wpAnyH_take (i := 14) (v := .pointer (some ⟨g, 6, Option.none⟩)) rfl (by kernel_rfl) (by kernel_rfl) (by kernel_rfl) (fun _ _ _ h => h) (Or.inl ⟨by rfl, ?yz14⟩) hHeld ?_
              case yz14 => intro w hSw; go_simp
              simp only [Act.put, List.getElem_toArray, List.getElem_cons_succ, List.getElem_cons_zero, List.setIfInBounds_toArray, List.set_cons_zero, List.set_cons_succ]
              refine wpAnyH_take (i := 15) (v := .pointer (some ⟨g, 6, Option.none⟩)) rfl (by kernel_rfl) (by kernel_rfl) (by kernel_rfl) (fun _ _ _ h => h) (Or.inl ⟨by rfl, ?yz15⟩) hHeld ?_
              case yz15 => intro w hSw; go_simp
              simp only [Act.put, List.getElem_toArray, List.getElem_cons_succ, List.getElem_cons_zero, List.setIfInBounds_toArray, List.set_cons_zero, List.set_cons_succ]
              refine wpAnyH_take (i := 16) (v := .string nK) rfl (by kernel_rfl) (by kernel_rfl) (by kernel_rfl) (fun _ _ _ h => h) (Or.inl ⟨by rfl, ?yz16⟩) hHeld ?_
              case yz16 => intro w hSw; have q := (cells_own8 (own_below8 OWH.out hSw) (j := 6) (u := .string nK) rfl).1; go_simp
              simp only [Act.put, List.getElem_toArray, List.getElem_cons_succ, List.getElem_cons_zero, List.setIfInBounds_toArray, List.set_cons_zero, List.set_cons_succ]
              refine wpAnyH_take (i := 17) (v := .int .i64 z) rfl (by kernel_rfl) (by kernel_rfl) (by kernel_rfl) (fun _ _ _ h => h) (Or.inl ⟨by rfl, ?yz17⟩) hHeld ?_
              case yz17 => intro w hSw; go_simp
              simp only [Act.put, List.getElem_toArray, List.getElem_cons_succ, List.getElem_cons_zero, List.setIfInBounds_toArray, List.set_cons_zero, List.set_cons_succ]
              refine wpAnyH_take (i := 18) (v := .agg #[.string nK, .int .i64 z]) rfl (by kernel_rfl) (by kernel_rfl) (by kernel_rfl) (fun _ _ _ h => h) (Or.inl ⟨by rfl, ?yz18⟩) hHeld ?_
              case yz18 => intro w hSw; go_simp
              simp only [Act.put, List.getElem_toArray, List.getElem_cons_succ, List.getElem_cons_zero, List.setIfInBounds_toArray, List.set_cons_zero, List.set_cons_succ]
              refine wpAnyH_ready (rs := [19]) (by kernel_rfl) (by simp) ?_
              refine AllReadyH.cons rfl (fun K hK => ?_) AllReadyH.nil
              rw [if_pos (by rfl)]
              simp only [List.getElem_toArray, List.getElem_cons_succ, List.getElem_cons_zero]
              go_wp2_with fail
              refine hK.out _ _ (hHeld.trans ((alloc_below wd _).mono hHeld.size)) (fun hHeld => ?_)
              have hbs : AV (wd.alloc (.cells #[.string nI, .int .i64 x, .string nJ, .int .i64 y, .string nK, .int .i64 z] 36)) wd.heap.size (.slice (some ⟨wd.heap.size, 0, Option.none⟩) 3 3) [⟨nI, x⟩, ⟨nJ, y⟩, ⟨nK, z⟩] := AV.laid (ts := [⟨nI, x⟩, ⟨nJ, y⟩, ⟨nK, z⟩]) (by simp) (blk_range (arr := #[.string nI, .int .i64 x, .string nJ, .int .i64 y, .string nK, .int .i64 z]) (heap_last _ _))
              refine wpAnyH_ready (rs := [20]) (by kernel_rfl) (by simp) ?_
              refine AllReadyH.cons rfl (fun K hK => ?_) AllReadyH.nil
              rw [if_pos (by rfl)]
              simp only [List.getElem_toArray, List.getElem_cons_succ, List.getElem_cons_zero]
              go_wp2_with fail
              refine (impl_AffAt c ts (by have := P3.out.2.2.1; omega) (by have := P3.out.1; omega) [⟨nI, x⟩, ⟨nJ, y⟩, ⟨nK, z⟩] (by simp) _ _ _ (AV.ofOwn8 (own_below8 TR3.out hHeld)) hbs.low).mono ?_
              rintro e f1 ⟨rfl, hb5⟩
              rw [show affAt8 c ts [⟨nI, x⟩, ⟨nJ, y⟩, ⟨nK, z⟩] = at3 c ts x y z from rfl]
              obtain ⟨A, hA⟩ : ∃ A, at3 c ts x y z = A := ⟨_, rfl⟩
              rw [hA]
              go_wp2_with fail
              refine hK.out _ _ (hHeld.trans (hb5.mono hHeld.size)) (fun hHeld => ?_)
              refine wpAnyH_take (i := 21) (v := .int .i64 A) rfl (by kernel_rfl) (by kernel_rfl) (by kernel_rfl) (fun _ _ _ h => h) (Or.inl ⟨by rfl, ?yz21⟩) hHeld ?_
              case yz21 => intro w hSw; go_simp
              simp only [Act.put, List.getElem_toArray, List.getElem_cons_succ, List.getElem_cons_zero, List.setIfInBounds_toArray, List.set_cons_zero, List.set_cons_succ]
              refine wpAnyH_done (by kernel_rfl) ?_ _
              have hA1 : vL ≤ A := by have := HL.out.bd x y z ⟨hlo0, hc0⟩ ⟨hlo1, hc1⟩ ⟨hlo2, hc2⟩; rw [if_neg (by decide), hA] at this; exact this
              have hA2 : A ≤ vM := by have := HM.out.bd x y z ⟨hlo0, hc0⟩ ⟨hlo1, hc1⟩ ⟨hlo2, hc2⟩; rw [if_pos rfl, hA] at this; exact this
              have hA3 : ¬ A < vL := by omega
              have hA4 : ¬ vM < A := by omega
              have HEL : Hid (X0 = x → Y0 = y → Z0 = z → A = vL) := show _ → _ from by rintro rfl rfl rfl; rw [← hA]; exact HL.out.is
              have HEM : Hid (X1 = x → Y1 = y → Z1 = z → A = vM) := show _ → _ from by rintro rfl rfl rfl; rw [← hA]; exact HM.out.is
              have BR9 := Lib.hid (HBR.out.trans (hHeld.mono HBR.out.size))
              have HN9 : Hid (nn + 1 = (x - l0) * D12 + (y - l1) * d2 + (z + 1 - l2)) := show _ = _ by have := HN.out; omega
              have HB9 : Hid (0 ≤ nn + 1 ∧ nn + 1 ≤ 25 * (x - l0) + 5 * (y - l1) + (z + 1 - l2)) := show _ ∧ _ by have := HB.out; omega
              clear hHeld hbs hb5 hA OWH BR3 TR3 HN HB HBR
              cases bl with
              | true =>
                cases bh with
                | true =>
                  go_wp2
                  go_roundw
                  case rel => exact ⟨true, true, nn + 1, z + 1, rfl, rfl, rfl, rfl, by omega, by omega, HN9.out, HB9.out, (fun _ => rfl), (fun _ => rfl), BR9.out⟩
                  case measure => simp [RowKit.intOf]; omega
                | false =>
                  by_cases hqm : A = vM
                  ·
                    have hqmb : (A == vM) = true := by simp [hqm]
                    clear hqm
                    go_wp2
                    go_roundw
                    case rel => exact ⟨true, true, nn + 1, z + 1, rfl, rfl, rfl, rfl, by omega, by omega, HN9.out, HB9.out, (fun _ => rfl), (fun _ => rfl), BR9.out⟩
                    case measure => simp [RowKit.intOf]; omega
                  ·
                    have HNM := Lib.hid hqm
                    have hqmb : (A == vM) = false := by simp [hqm]
                    clear hqm
                    go_wp2
                    go_roundw
                    case rel => exact ⟨true, false, nn + 1, z + 1, rfl, rfl, rfl, rfl, by omega, by omega, HN9.out, HB9.out, (fun _ => rfl), (seen9 HSH.out HEM.out HNM.out), BR9.out⟩
                    case measure => simp [RowKit.intOf]; omega
              | false =>
                by_cases hql : A = vL
                ·
                  have hqlb : (A == vL) = true := by simp [hql]
                  clear hql
                  cases bh with
                  | true =>
                    go_wp2
                    go_roundw
                    case rel => exact ⟨true, true, nn + 1, z + 1, rfl, rfl, rfl, rfl, by omega, by omega, HN9.out, HB9.out, (fun _ => rfl), (fun _ => rfl), BR9.out⟩
                    case measure => simp [RowKit.intOf]; omega
                  | false =>
                    by_cases hqm : A = vM
                    ·
                      have hqmb : (A == vM) = true := by simp [hqm]
                      clear hqm
                      go_wp2
                      go_roundw
                      case rel => exact ⟨true, true, nn + 1, z + 1, rfl, rfl, rfl, rfl, by omega, by omega, HN9.out, HB9.out, (fun _ => rfl), (fun _ => rfl), BR9.out⟩
                      case measure => simp [RowKit.intOf]; omega
                    ·
                      have HNM := Lib.hid hqm
                      have hqmb : (A == vM) = false := by simp [hqm]
                      clear hqm
                      go_wp2
                      go_roundw
                      case rel => exact ⟨true, false, nn + 1, z + 1, rfl, rfl, rfl, rfl, by omega, by omega, HN9.out, HB9.out, (fun _ => rfl), (seen9 HSH.out HEM.out HNM.out), BR9.out⟩
                      case measure => simp [RowKit.intOf]; omega
                ·
                  have HNL := Lib.hid hql
                  have hqlb : (A == vL) = false := by simp [hql]
                  clear hql
                  cases bh with
                  | true =>
                    go_wp2
                    go_roundw
                    case rel => exact ⟨false, true, nn + 1, z + 1, rfl, rfl, rfl, rfl, by omega, by omega, HN9.out, HB9.out, (seen9 HSL.out HEL.out HNL.out), (fun _ => rfl), BR9.out⟩
                    case measure => simp [RowKit.intOf]; omega
                  | false =>
                    by_cases hqm : A = vM
                    ·
                      have hqmb : (A == vM) = true := by simp [hqm]
                      clear hqm
                      go_wp2
                      go_roundw
                      case rel => exact ⟨false, true, nn + 1, z + 1, rfl, rfl, rfl, rfl, by omega, by omega, HN9.out, HB9.out, (seen9 HSL.out HEL.out HNL.out), (fun _ => rfl), BR9.out⟩
                      case measure => simp [RowKit.intOf]; omega
                    ·
                      have HNM := Lib.hid hqm
                      have hqmb : (A == vM) = false := by simp [hqm]
                      clear hqm
                      go_wp2
                      go_roundw
                      case rel => exact ⟨false, false, nn + 1, z + 1, rfl, rfl, rfl, rfl, by omega, by omega, HN9.out, HB9.out, (seen9 HSL.out HEL.out HNL.out), (seen9 HSH.out HEM.out HNM.out), BR9.out⟩
                      case measure => simp [RowKit.intOf]; omega
            ·
              obtain rfl : z = h2 + 1 := by omega
              have HN9 : Hid (nn = (x - l0) * D12 + (y + 1 - l1) * d2) := show _ = _ by
                have h := HN.out
                have h2 := HD2.out
                have h3 := step_mul9 (y - l1) d2
                rw [show y - l1 + 1 = y + 1 - l1 by omega] at h3
                rw [h3]; omega
              have HB9 : Hid (0 ≤ nn ∧ nn ≤ 25 * (x - l0) + 5 * (y + 1 - l1)) := show _ ∧ _ by have := HB.out; omega
              have SL9 : Hid (Bf9 X0 Y0 Z0 x (y + 1) l2 → bl = true) := seen_on9 HSL.out (by have := HL.out.z; omega) HL.out.z.1
              have SH9 : Hid (Bf9 X1 Y1 Z1 x (y + 1) l2 → bh = true) := seen_on9 HSH.out (by have := HM.out.z; omega) HM.out.z.1
              clear HN HB HSL HSH OW hbr
              go_wp2
              go_roundw
              case rel => exact ⟨bl, bh, nn, y + 1, rfl, rfl, rfl, rfl, by omega, by omega, HN9.out, HB9.out, SL9.out, SH9.out, HBR.out⟩
              case measure => simp [RowKit.intOf]; omega
        ·
          obtain rfl : y = h1 + 1 := by omega
          have HN9 : Hid (nn = (x + 1 - l0) * D12) := show _ = _ by
            have h := HN.out
            have h2 := HD12.out
            have h3 := step_mul9 (x - l0) D12
            rw [show x - l0 + 1 = x + 1 - l0 by omega] at h3
            rw [h3, h, ← h2, show h1 + 1 - l1 = h1 - l1 + 1 by omega]
          have HB9 : Hid (0 ≤ nn ∧ nn ≤ 25 * (x + 1 - l0)) := show _ ∧ _ by have := HB.out; omega
          have SL9 : Hid (Bf9 X0 Y0 Z0 (x + 1) l1 l2 → bl = true) := seen_up9 HSL.out (by have := HL.out.y; omega) HL.out.y.1 HL.out.z.1
          have SH9 : Hid (Bf9 X1 Y1 Z1 (x + 1) l1 l2 → bh = true) := seen_up9 HSH.out (by have := HM.out.y; omega) HM.out.y.1 HM.out.z.1
          clear HN HB HSL HSH
          go_wp2
          go_roundw
          case rel => exact ⟨bl, bh, nn, x + 1, rfl, rfl, rfl, rfl, by omega, by omega, HN9.out, HB9.out, SL9.out, SH9.out, HBR.out⟩
          case measure => simp [RowKit.intOf]; omega
    ·
      obtain rfl : x = h0 + 1 := by omega
      obtain rfl : bl = true := HSL.out (by have := HL.out.x; unfold Bf9; omega)
      obtain rfl : bh = true := HSH.out (by have := HM.out.x; unfold Bf9; omega)
      have HR : Hid (rounds9 [⟨nI, l0, h0⟩, ⟨nJ, l1, h1⟩, ⟨nK, l2, h2⟩] = nn) := show _ = _ by
        have h := HN.out
        rw [rounds3 b0 b1 b2, h, ← HD12.out, ← HD2.out, show h0 + 1 - l0 = h0 - l0 + 1 by omega]
      have hbr := HBR.out
      have R4_5 := Lib.hid (R4_4.out.later hbr)
      have LO_5 := Lib.hid (LO_4.out.trans (hbr.mono LO_4.out.size))
      have O3_5 := Lib.hid (own_below8 O3_4.out hbr)
      have O4_5 := Lib.hid (own_below8 O4_4.out hbr)
      have B3_5 := Lib.hid (heap_b8 B3_4.out hbr)
      clear LO_4 O3_4 O4_4 B3_4 hbr HN HB HSL HSH R4_4
      go_wp2_with fail
      refine (at_is9 w.heap.size a len cap 2 _ hlen1 (by omega) (HC.out.later LO_5.out)).mono ?_
      rintro e w5 ⟨sz, rfl, sz0, sz1, rfl⟩
      go_wp2_with fail
      refine (impl_Rounds [⟨nI, l0, h0⟩, ⟨nJ, l1, h1⟩, ⟨nK, l2, h2⟩] (by simp) _ _ R4_5.out).mono ?_
      rintro e w6 ⟨rfl, hb⟩
      rw [HR.out]
      have R4_6 := Lib.hid (R4_5.out.later hb)
      have LO_6 := Lib.hid (LO_5.out.trans (hb.mono LO_5.out.size))
      have O3_6 := Lib.hid (own_below8 O3_5.out hb)
      have O4_6 := Lib.hid (own_below8 O4_5.out hb)
      have B3_6 := Lib.hid (heap_b8 B3_5.out hb)
      clear LO_5 O3_5 O4_5 B3_5 hb R4_5
      obtain ⟨⟨y0, y1⟩, _⟩ := blk2 B3_6.out
      go_wp2_with fail
      refine (impl_InArr c ts (by have := P3.out.2.2.1; omega) [⟨nI, l0, h0⟩, ⟨nJ, l1, h1⟩, ⟨nK, l2, h2⟩] (by simp) sz _ _ _ (AV.ofOwn8 O3_6.out) R4_6.out _ (inArr_is9 EL.out EM.out)).mono ?_
      rintro e w7 ⟨rfl, hb⟩
      have R4_7 := Lib.hid (R4_6.out.later hb)
      have LO_7 := Lib.hid (LO_6.out.trans (hb.mono LO_6.out.size))
      have O3_7 := Lib.hid (own_below8 O3_6.out hb)
      have O4_7 := Lib.hid (own_below8 O4_6.out hb)
      have B3_7 := Lib.hid (heap_b8 B3_6.out hb)
      clear LO_6 O3_6 O4_6 B3_6 hb y0 y1 R4_6
      by_cases hz0 : vL ≥ 0
      ·
        have hz0b : decide (vL ≥ 0) = true := decide_eq_true hz0
        by_cases hz1 : vM < sz
        ·
          have hz1b : decide (vM < sz) = true := decide_eq_true hz1
          rw [hz0b, hz1b]
          go_wp2_with fail
          refine (impl_BoxOk [⟨nI, l0, h0⟩, ⟨nJ, l1, h1⟩, ⟨nK, l2, h2⟩] (by simp) _ _ R4_7.out true (box_ok9 b0 b1 b2).1).mono ?_
          rintro e w8 ⟨rfl, hb⟩
          have BF := LO_7.out.trans (hb.mono LO_7.out.size)
          clear hb
          go_wp2
          go_ret
          exact ⟨rfl, BF⟩
        ·
          have hz1b : decide (vM < sz) = false := decide_eq_false hz1
          rw [hz0b, hz1b]
          go_wp2_with fail
          refine (impl_BoxOk [⟨nI, l0, h0⟩, ⟨nJ, l1, h1⟩, ⟨nK, l2, h2⟩] (by simp) _ _ R4_7.out true (box_ok9 b0 b1 b2).1).mono ?_
          rintro e w8 ⟨rfl, hb⟩
          have BF := LO_7.out.trans (hb.mono LO_7.out.size)
          clear hb
          go_wp2
          go_ret
          exact ⟨rfl, BF⟩
      ·
        have hz0b : decide (vL ≥ 0) = false := decide_eq_false hz0
        rw [hz0b]
        simp only [Bool.false_and]
        go_wp2_with fail
        refine (impl_BoxOk [⟨nI, l0, h0⟩, ⟨nJ, l1, h1⟩, ⟨nK, l2, h2⟩] (by simp) _ _ R4_7.out true (box_ok9 b0 b1 b2).1).mono ?_
        rintro e w8 ⟨rfl, hb⟩
        have BF := LO_7.out.trans (hb.mono LO_7.out.size)
        clear hb
        go_wp2
        go_ret
        exact ⟨rfl, BF⟩
end Go.Proofs.Ythecjaonbmefgaa
