/-
  The walk of laws.FnBoxesBent.
-/
import Derived.Test.YthecjaonbmefgaaB9Draws
import Derived.Test.YthecjaonbmefgaaEndTop
import Derived.Test.YthecjaonbmefgaaBoxOkS
import Derived.Test.YthecjaonbmefgaaBoxOkI
import Derived.Test.YthecjaonbmefgaaRounds
namespace Go.Proofs.Ythecjaonbmefgaa
open Go.RowKit Go.Lib
set_option linter.unusedSimpArgs false
set_option linter.unusedVariables false

theorem Any8.sz {c : Int} {ts : List AR} (h : Any8 c ts) : ∀ t ∈ ts, t.s.size ≤ 281474976710656 := fun t ht => by have := (h.2.2 t ht).1; omega
theorem AnyR9.sz {rs : List RG} (h : AnyR9 rs) : ∀ t ∈ rs, t.s.size ≤ 281474976710656 := fun t ht => by have := (h.2 t ht).1; omega
set_option maxHeartbeats 4000000 in
set_option maxRecDepth 100000 in
theorem boxesBent_walk (a : Option Addr) (len cap : Nat) (w : World) (hC : CodeIs w.heap.size w a len) :
    Calls Try.prog 4 #[.slice a len cap] w fun e w' => e = .returned (.bool true) ∧ Below w.heap.size w w' := by
  have HC := Lib.hid hC
  clear hC
  go_enter Try.func4, Try.ntmps4
  go_wp2_with fail
  refine (big_is a len cap _).mono ?_
  rintro e w0 ⟨rfl, rfl⟩
  by_cases hbig : (1048576 : Int) < (len : Int)
  · have hb1 : decide ((1048576 : Int) < (len : Int)) = true := decide_eq_true hbig
    rw [hb1]
    go_wp2
    go_ret
    exact ⟨rfl, Below.refl _ _⟩
  have hb1 : decide ((1048576 : Int) < (len : Int)) = false := decide_eq_false hbig
  rw [hb1]
  have hlen : len ≤ 281474976710656 := by omega
  clear hb1 hbig
  have LO := Lib.hid (Below.refl w.heap.size w)
  go_wp2_with fail
  refine (DrawBoxOk_is a len cap _ hlen HC.out).mono ?_
  rintro e w1 ⟨r3, v3, rfl, p3, rv, hb⟩
  obtain ⟨a3, k3, rfl⟩ := rv.shape
  have LO_1 := Lib.hid (LO.out.trans (hb.mono LO.out.size))
  clear LO 
  have R3 := Lib.hid rv
  have P3 := Lib.hid p3
  clear hb rv p3
  go_wp2_with fail
  refine (DrawLeast_is a len cap _ hlen ((HC.out.later LO_1.out).mono LO_1.out.size)).mono ?_
  rintro e w2 ⟨c4, t4, r5, v4, v5, rfl, p4, p5, own0, rv, hb⟩
  obtain ⟨a4, k4, rfl⟩ := ownShape own0
  obtain ⟨a5, k5, rfl⟩ := rv.shape
  have R3_2 := Lib.hid (R3.out.later hb)
  have LO_2 := Lib.hid (LO_1.out.trans (hb.mono LO_1.out.size))
  clear LO_1 R3
  have O4 := Lib.hid own0
  have R5 := Lib.hid rv
  have P4 := Lib.hid p4
  have P5 := Lib.hid p5
  clear hb own0 rv p4 p5
  have ba := alloc_below w2 (.cells #[.int .i64 c4, .slice a4 t4.length k4] 26)
  have hh := heap_last w2 (.cells #[.int .i64 c4, .slice a4 t4.length k4] 26)
  obtain ⟨⟨y0, y1⟩, _⟩ := blk2 hh
  obtain ⟨W2, hW2⟩ : ∃ W, Hid (W = w2.alloc (.cells #[.int .i64 c4, .slice a4 t4.length k4] 26)) := ⟨_, rfl⟩
  rw [← hW2.out] at ba hh
  go_wp2_with fail
  rw [← hW2.out]
  have R3_3 := Lib.hid (R3_2.out.later ba)
  have R5_3 := Lib.hid (R5.out.later ba)
  have LO_3 := Lib.hid (LO_2.out.trans (ba.mono LO_2.out.size))
  have O4_3 := Lib.hid (own_below8 O4.out ba)
  clear LO_2 O4 y0 y1 R3_2 R5
  have B4 := Lib.hid hh
  clear ba hh hW2
  obtain ⟨xl, bl, hxl⟩ : ∃ x b, farR9 (far9 false c4 t4 r5) = .returned (.tuple #[.int .i64 x, .bool b]) := ⟨_, _, rfl⟩
  obtain ⟨xm, bm, hxm⟩ : ∃ x b, farR9 (far9 true c4 t4 r5) = .returned (.tuple #[.int .i64 x, .bool b]) := ⟨_, _, rfl⟩
  have HXL := Lib.hid hxl
  have HXM := Lib.hid hxm
  clear hxl hxm
  refine (impl_Least c4 t4 (by have := P4.out.2.1; omega) r5 (by have := P5.out.1; omega) _ _ _ (AV.ofOwn8 O4_3.out) R5_3.out).mono ?_
  rintro e w3 ⟨he, hb⟩
  rw [HXL.out] at he
  subst he
  have R3_4 := Lib.hid (R3_3.out.later hb)
  have R5_4 := Lib.hid (R5_3.out.later hb)
  have LO_4 := Lib.hid (LO_3.out.trans (hb.mono LO_3.out.size))
  have O4_4 := Lib.hid (own_below8 O4_3.out hb)
  have B4_4 := Lib.hid (heap_b8 B4.out hb)
  clear LO_3 O4_3 B4 hb R3_3 R5_3
  obtain ⟨⟨y0, y1⟩, _⟩ := blk2 B4_4.out
  go_wp2_with fail
  refine (spec_Least c4 t4 (by have := P4.out.2.1; omega) P4.out.sz r5 (by have := P5.out.1; omega) P5.out.sz _ _ _ (AV.ofOwn8 O4_4.out) R5_4.out).mono ?_
  rintro e w4 ⟨he, hb⟩
  rw [HXL.out] at he
  subst he
  have R3_5 := Lib.hid (R3_4.out.later hb)
  have R5_5 := Lib.hid (R5_4.out.later hb)
  have LO_5 := Lib.hid (LO_4.out.trans (hb.mono LO_4.out.size))
  have O4_5 := Lib.hid (own_below8 O4_4.out hb)
  have B4_5 := Lib.hid (heap_b8 B4_4.out hb)
  clear LO_4 O4_4 B4_4 hb y0 y1 R3_4 R5_4
  obtain ⟨⟨y0, y1⟩, _⟩ := blk2 B4_5.out
  go_wp2_with fail
  refine (impl_Most c4 t4 (by have := P4.out.2.1; omega) r5 (by have := P5.out.1; omega) _ _ _ (AV.ofOwn8 O4_5.out) R5_5.out).mono ?_
  rintro e w5 ⟨he, hb⟩
  rw [HXM.out] at he
  subst he
  have R3_6 := Lib.hid (R3_5.out.later hb)
  have R5_6 := Lib.hid (R5_5.out.later hb)
  have LO_6 := Lib.hid (LO_5.out.trans (hb.mono LO_5.out.size))
  have O4_6 := Lib.hid (own_below8 O4_5.out hb)
  have B4_6 := Lib.hid (heap_b8 B4_5.out hb)
  clear LO_5 O4_5 B4_5 hb y0 y1 R3_5 R5_5
  obtain ⟨⟨y0, y1⟩, _⟩ := blk2 B4_6.out
  go_wp2_with fail
  refine (spec_Most c4 t4 (by have := P4.out.2.1; omega) P4.out.sz r5 (by have := P5.out.1; omega) P5.out.sz _ _ _ (AV.ofOwn8 O4_6.out) R5_6.out).mono ?_
  rintro e w6 ⟨he, hb⟩
  rw [HXM.out] at he
  subst he
  have R3_7 := Lib.hid (R3_6.out.later hb)
  have R5_7 := Lib.hid (R5_6.out.later hb)
  have LO_7 := Lib.hid (LO_6.out.trans (hb.mono LO_6.out.size))
  have O4_7 := Lib.hid (own_below8 O4_6.out hb)
  have B4_7 := Lib.hid (heap_b8 B4_6.out hb)
  clear LO_6 O4_6 B4_6 hb y0 y1 R3_6 R5_6
  go_wp2_with fail
  refine (DrawInArr_is a len cap _ hlen ((HC.out.later LO_7.out).mono LO_7.out.size)).mono ?_
  rintro e w7 ⟨c14, t14, r15, v14, v15, sz, rfl, p14, p15, own0, rv, hb⟩
  obtain ⟨a14, k14, rfl⟩ := ownShape own0
  obtain ⟨a15, k15, rfl⟩ := rv.shape
  have R3_8 := Lib.hid (R3_7.out.later hb)
  have R5_8 := Lib.hid (R5_7.out.later hb)
  have LO_8 := Lib.hid (LO_7.out.trans (hb.mono LO_7.out.size))
  have O4_8 := Lib.hid (own_below8 O4_7.out hb)
  have B4_8 := Lib.hid (heap_b8 B4_7.out hb)
  clear LO_7 O4_7 B4_7 R3_7 R5_7
  have O14 := Lib.hid own0
  have R15 := Lib.hid rv
  have P14 := Lib.hid p14
  have P15 := Lib.hid p15
  clear hb own0 rv p14 p15
  have ba := alloc_below w7 (.cells #[.int .i64 c14, .slice a14 t14.length k14] 26)
  have hh := heap_last w7 (.cells #[.int .i64 c14, .slice a14 t14.length k14] 26)
  obtain ⟨W7, hW7⟩ : ∃ W, Hid (W = w7.alloc (.cells #[.int .i64 c14, .slice a14 t14.length k14] 26)) := ⟨_, rfl⟩
  rw [← hW7.out] at ba hh
  go_wp2_with fail
  rw [← hW7.out]
  have R3_9 := Lib.hid (R3_8.out.later ba)
  have R5_9 := Lib.hid (R5_8.out.later ba)
  have R15_9 := Lib.hid (R15.out.later ba)
  have LO_9 := Lib.hid (LO_8.out.trans (ba.mono LO_8.out.size))
  have O4_9 := Lib.hid (own_below8 O4_8.out ba)
  have B4_9 := Lib.hid (heap_b8 B4_8.out ba)
  have O14_9 := Lib.hid (own_below8 O14.out ba)
  clear LO_8 O4_8 B4_8 O14 R3_8 R5_8 R15
  have B14 := Lib.hid hh
  clear ba hh hW7
  refine (DrawRounds_is a len cap _ hlen ((HC.out.later LO_9.out).mono LO_9.out.size)).mono ?_
  rintro e w8 ⟨r17, v17, rfl, p17, rv, hb⟩
  obtain ⟨a17, k17, rfl⟩ := rv.shape
  have R3_10 := Lib.hid (R3_9.out.later hb)
  have R5_10 := Lib.hid (R5_9.out.later hb)
  have R15_10 := Lib.hid (R15_9.out.later hb)
  have LO_10 := Lib.hid (LO_9.out.trans (hb.mono LO_9.out.size))
  have O4_10 := Lib.hid (own_below8 O4_9.out hb)
  have B4_10 := Lib.hid (heap_b8 B4_9.out hb)
  have O14_10 := Lib.hid (own_below8 O14_9.out hb)
  have B14_10 := Lib.hid (heap_b8 B14.out hb)
  clear LO_9 O4_9 B4_9 O14_9 B14 R3_9 R5_9 R15_9
  have R17 := Lib.hid rv
  have P17 := Lib.hid p17
  clear hb rv p17
  obtain ⟨tv, htv⟩ : ∃ tv, boxOk9 r3 = tv := ⟨_, rfl⟩
  obtain ⟨iv, hiv⟩ : ∃ iv, inArr9 c14 t14 r15 sz = iv := ⟨_, rfl⟩
  have HTV := Lib.hid htv
  have HIV := Lib.hid hiv
  clear htv hiv
  go_wp2_with fail
  obtain ⟨wz, Wz⟩ : ∃ W, Hid (W = w8.drew) := ⟨_, rfl⟩
  have bd : Below w8.heap.size w8 wz := by rw [Wz.out]; exact (Below.refl _ _).drew
  have bz : Below wz.heap.size wz wz := Below.refl _ _
  refine wp_region_held_drew (S := Below wz.heap.size wz) (by kernel_rfl) (by rw [← Wz.out]; exact bz) (fun hHeld => ?_)
  rw [← Wz.out] at hHeld ⊢
  have R3_11 := Lib.hid (R3_10.out.later bd)
  have R5_11 := Lib.hid (R5_10.out.later bd)
  have R15_11 := Lib.hid (R15_10.out.later bd)
  have R17_11 := Lib.hid (R17.out.later bd)
  have LO_11 := Lib.hid (LO_10.out.trans (bd.mono LO_10.out.size))
  have O4_11 := Lib.hid (own_below8 O4_10.out bd)
  have B4_11 := Lib.hid (heap_b8 B4_10.out bd)
  have O14_11 := Lib.hid (own_below8 O14_10.out bd)
  have B14_11 := Lib.hid (heap_b8 B14_10.out bd)
  clear LO_10 O4_10 B4_10 O14_10 B14_10 R3_10 R5_10 R15_10 R17
  clear bd Wz bz
  refine wpAnyH_take (i := 0) (v := .slice a3 r3.length k3) rfl (by kernel_rfl) (by kernel_rfl) (by kernel_rfl) (fun _ _ _ h => h) (Or.inl ⟨by rfl, ?yz0⟩) hHeld ?_
  case yz0 => intro w hSw; go_simp
  simp only [Act.put, List.getElem_toArray, List.getElem_cons_succ, List.getElem_cons_zero, List.setIfInBounds_toArray, List.set_cons_zero, List.set_cons_succ]
  refine wpAnyH_take (i := 2) (v := .slice a3 r3.length k3) rfl (by kernel_rfl) (by kernel_rfl) (by kernel_rfl) (fun _ _ _ h => h) (Or.inl ⟨by rfl, ?yz2⟩) hHeld ?_
  case yz2 => intro w hSw; go_simp
  simp only [Act.put, List.getElem_toArray, List.getElem_cons_succ, List.getElem_cons_zero, List.setIfInBounds_toArray, List.set_cons_zero, List.set_cons_succ]
  refine wpAnyH_ready (rs := [1]) (by kernel_rfl) (by simp) ?_
  refine AllReadyH.cons rfl (fun K hK => ?_) AllReadyH.nil
  rw [if_pos (by rfl)]
  simp only [List.getElem_toArray, List.getElem_cons_succ, List.getElem_cons_zero]
  go_wp2_with fail
  refine (impl_BoxOk r3 (by have := P3.out.1; omega) _ _ (R3_11.out.later hHeld) tv HTV.out).mono ?_
  rintro e v1 ⟨rfl, hb5⟩
  go_wp2_with fail
  refine hK.out _ _ (hHeld.trans (hb5.mono hHeld.size)) (fun hHeld => ?_)
  refine wpAnyH_ready (rs := [3]) (by kernel_rfl) (by simp) ?_
  refine AllReadyH.cons rfl (fun K hK => ?_) AllReadyH.nil
  rw [if_pos (by rfl)]
  simp only [List.getElem_toArray, List.getElem_cons_succ, List.getElem_cons_zero]
  go_wp2_with fail
  refine (spec_BoxOk r3 (by have := P3.out.1; omega) P3.out.sz _ _ (R3_11.out.later hHeld) tv HTV.out).mono ?_
  rintro e v2 ⟨rfl, hb5⟩
  go_wp2_with fail
  refine hK.out _ _ (hHeld.trans (hb5.mono hHeld.size)) (fun hHeld => ?_)
  refine wpAnyH_take (i := 4) (v := .bool true) rfl (by kernel_rfl) (by kernel_rfl) (by kernel_rfl) (fun _ _ _ h => h) (Or.inl ⟨by rfl, ?yz4⟩) hHeld ?_
  case yz4 => intro w hSw; go_simp
  simp only [Act.put, List.getElem_toArray, List.getElem_cons_succ, List.getElem_cons_zero, List.setIfInBounds_toArray, List.set_cons_zero, List.set_cons_succ]
  refine wpAnyH_take (i := 5) (v := .bool true) rfl (by kernel_rfl) (by kernel_rfl) (by kernel_rfl) (fun _ _ _ h => h) (Or.inl ⟨by rfl, ?yz5⟩) hHeld ?_
  case yz5 => intro w hSw; go_simp
  simp only [Act.put, List.getElem_toArray, List.getElem_cons_succ, List.getElem_cons_zero, List.setIfInBounds_toArray, List.set_cons_zero, List.set_cons_succ]
  refine wpAnyH_take (i := 6) (v := .bool bl) rfl (by kernel_rfl) (by kernel_rfl) (by kernel_rfl) (fun _ _ _ h => h) (Or.inl ⟨by rfl, ?yz6⟩) hHeld ?_
  case yz6 => intro w hSw; go_simp
  simp only [Act.put, List.getElem_toArray, List.getElem_cons_succ, List.getElem_cons_zero, List.setIfInBounds_toArray, List.set_cons_zero, List.set_cons_succ]
  refine wpAnyH_take (i := 7) (v := .bool bl) rfl (by kernel_rfl) (by kernel_rfl) (by kernel_rfl) (fun _ _ _ h => h) (Or.inl ⟨by rfl, ?yz7⟩) hHeld ?_
  case yz7 => intro w hSw; go_simp
  simp only [Act.put, List.getElem_toArray, List.getElem_cons_succ, List.getElem_cons_zero, List.setIfInBounds_toArray, List.set_cons_zero, List.set_cons_succ]
  refine wpAnyH_take (i := 8) (v := .bool true) rfl (by kernel_rfl) (by kernel_rfl) (by kernel_rfl) (fun _ _ _ h => h) (Or.inl ⟨by rfl, ?yz8⟩) hHeld ?_
  case yz8 => intro w hSw; go_simp
  simp only [Act.put, List.getElem_toArray, List.getElem_cons_succ, List.getElem_cons_zero, List.setIfInBounds_toArray, List.set_cons_zero, List.set_cons_succ]
  refine wpAnyH_take (i := 9) (v := .bool true) rfl (by kernel_rfl) (by kernel_rfl) (by kernel_rfl) (fun _ _ _ h => h) (Or.inl ⟨by rfl, ?yz9⟩) hHeld ?_
  case yz9 => intro w hSw; go_simp
  simp only [Act.put, List.getElem_toArray, List.getElem_cons_succ, List.getElem_cons_zero, List.setIfInBounds_toArray, List.set_cons_zero, List.set_cons_succ]
  refine wpAnyH_take (i := 10) (v := .bool true) rfl (by kernel_rfl) (by kernel_rfl) (by kernel_rfl) (fun _ _ _ h => h) (Or.inl ⟨by rfl, ?yz10⟩) hHeld ?_
  case yz10 => intro w hSw; go_simp
  simp only [Act.put, List.getElem_toArray, List.getElem_cons_succ, List.getElem_cons_zero, List.setIfInBounds_toArray, List.set_cons_zero, List.set_cons_succ]
  refine wpAnyH_take (i := 11) (v := .int .i64 xl) rfl (by kernel_rfl) (by kernel_rfl) (by kernel_rfl) (fun _ _ _ h => h) (Or.inl ⟨by rfl, ?yz11⟩) hHeld ?_
  case yz11 => intro w hSw; go_simp
  simp only [Act.put, List.getElem_toArray, List.getElem_cons_succ, List.getElem_cons_zero, List.setIfInBounds_toArray, List.set_cons_zero, List.set_cons_succ]
  refine wpAnyH_take (i := 12) (v := .int .i64 xl) rfl (by kernel_rfl) (by kernel_rfl) (by kernel_rfl) (fun _ _ _ h => h) (Or.inl ⟨by rfl, ?yz12⟩) hHeld ?_
  case yz12 => intro w hSw; go_simp
  simp only [Act.put, List.getElem_toArray, List.getElem_cons_succ, List.getElem_cons_zero, List.setIfInBounds_toArray, List.set_cons_zero, List.set_cons_succ]
  refine wpAnyH_take (i := 13) (v := .bool true) rfl (by kernel_rfl) (by kernel_rfl) (by kernel_rfl) (fun _ _ _ h => h) (Or.inl ⟨by rfl, ?yz13⟩) hHeld ?_
  case yz13 => intro w hSw; go_simp
  simp only [Act.put, List.getElem_toArray, List.getElem_cons_succ, List.getElem_cons_zero, List.setIfInBounds_toArray, List.set_cons_zero, List.set_cons_succ]
  refine wpAnyH_take (i := 14) (v := .bool true) rfl (by kernel_rfl) (by kernel_rfl) (by kernel_rfl) (fun _ _ _ h => h) (Or.inl ⟨by rfl, ?yz14⟩) hHeld ?_
  case yz14 => intro w hSw; go_simp
  simp only [Act.put, List.getElem_toArray, List.getElem_cons_succ, List.getElem_cons_zero, List.setIfInBounds_toArray, List.set_cons_zero, List.set_cons_succ]
  refine wpAnyH_take (i := 15) (v := .bool true) rfl (by kernel_rfl) (by kernel_rfl) (by kernel_rfl) (fun _ _ _ h => h) (Or.inl ⟨by rfl, ?yz15⟩) hHeld ?_
  case yz15 => intro w hSw; go_simp
  simp only [Act.put, List.getElem_toArray, List.getElem_cons_succ, List.getElem_cons_zero, List.setIfInBounds_toArray, List.set_cons_zero, List.set_cons_succ]
  refine wpAnyH_take (i := 16) (v := .bool bm) rfl (by kernel_rfl) (by kernel_rfl) (by kernel_rfl) (fun _ _ _ h => h) (Or.inl ⟨by rfl, ?yz16⟩) hHeld ?_
  case yz16 => intro w hSw; go_simp
  simp only [Act.put, List.getElem_toArray, List.getElem_cons_succ, List.getElem_cons_zero, List.setIfInBounds_toArray, List.set_cons_zero, List.set_cons_succ]
  refine wpAnyH_take (i := 17) (v := .bool bm) rfl (by kernel_rfl) (by kernel_rfl) (by kernel_rfl) (fun _ _ _ h => h) (Or.inl ⟨by rfl, ?yz17⟩) hHeld ?_
  case yz17 => intro w hSw; go_simp
  simp only [Act.put, List.getElem_toArray, List.getElem_cons_succ, List.getElem_cons_zero, List.setIfInBounds_toArray, List.set_cons_zero, List.set_cons_succ]
  refine wpAnyH_take (i := 18) (v := .bool true) rfl (by kernel_rfl) (by kernel_rfl) (by kernel_rfl) (fun _ _ _ h => h) (Or.inl ⟨by rfl, ?yz18⟩) hHeld ?_
  case yz18 => intro w hSw; go_simp
  simp only [Act.put, List.getElem_toArray, List.getElem_cons_succ, List.getElem_cons_zero, List.setIfInBounds_toArray, List.set_cons_zero, List.set_cons_succ]
  refine wpAnyH_take (i := 19) (v := .bool true) rfl (by kernel_rfl) (by kernel_rfl) (by kernel_rfl) (fun _ _ _ h => h) (Or.inl ⟨by rfl, ?yz19⟩) hHeld ?_
  case yz19 => intro w hSw; go_simp
  simp only [Act.put, List.getElem_toArray, List.getElem_cons_succ, List.getElem_cons_zero, List.setIfInBounds_toArray, List.set_cons_zero, List.set_cons_succ]
  refine wpAnyH_take (i := 20) (v := .bool true) rfl (by kernel_rfl) (by kernel_rfl) (by kernel_rfl) (fun _ _ _ h => h) (Or.inl ⟨by rfl, ?yz20⟩) hHeld ?_
  case yz20 => intro w hSw; go_simp
  simp only [Act.put, List.getElem_toArray, List.getElem_cons_succ, List.getElem_cons_zero, List.setIfInBounds_toArray, List.set_cons_zero, List.set_cons_succ]
  refine wpAnyH_take (i := 21) (v := .int .i64 xm) rfl (by kernel_rfl) (by kernel_rfl) (by kernel_rfl) (fun _ _ _ h => h) (Or.inl ⟨by rfl, ?yz21⟩) hHeld ?_
  case yz21 => intro w hSw; go_simp
  simp only [Act.put, List.getElem_toArray, List.getElem_cons_succ, List.getElem_cons_zero, List.setIfInBounds_toArray, List.set_cons_zero, List.set_cons_succ]
  refine wpAnyH_take (i := 22) (v := .int .i64 xm) rfl (by kernel_rfl) (by kernel_rfl) (by kernel_rfl) (fun _ _ _ h => h) (Or.inl ⟨by rfl, ?yz22⟩) hHeld ?_
  case yz22 => intro w hSw; go_simp
  simp only [Act.put, List.getElem_toArray, List.getElem_cons_succ, List.getElem_cons_zero, List.setIfInBounds_toArray, List.set_cons_zero, List.set_cons_succ]
  refine wpAnyH_take (i := 23) (v := .bool true) rfl (by kernel_rfl) (by kernel_rfl) (by kernel_rfl) (fun _ _ _ h => h) (Or.inl ⟨by rfl, ?yz23⟩) hHeld ?_
  case yz23 => intro w hSw; go_simp
  simp only [Act.put, List.getElem_toArray, List.getElem_cons_succ, List.getElem_cons_zero, List.setIfInBounds_toArray, List.set_cons_zero, List.set_cons_succ]
  refine wpAnyH_take (i := 24) (v := .bool true) rfl (by kernel_rfl) (by kernel_rfl) (by kernel_rfl) (fun _ _ _ h => h) (Or.inl ⟨by rfl, ?yz24⟩) hHeld ?_
  case yz24 => intro w hSw; go_simp
  simp only [Act.put, List.getElem_toArray, List.getElem_cons_succ, List.getElem_cons_zero, List.setIfInBounds_toArray, List.set_cons_zero, List.set_cons_succ]
  refine wpAnyH_take (i := 25) (v := .bool true) rfl (by kernel_rfl) (by kernel_rfl) (by kernel_rfl) (fun _ _ _ h => h) (Or.inl ⟨by rfl, ?yz25⟩) hHeld ?_
  case yz25 => intro w hSw; go_simp
  simp only [Act.put, List.getElem_toArray, List.getElem_cons_succ, List.getElem_cons_zero, List.setIfInBounds_toArray, List.set_cons_zero, List.set_cons_succ]
  refine wpAnyH_take (i := 26) (v := .agg #[.int .i64 c14, .slice a14 t14.length k14]) rfl (by kernel_rfl) (by kernel_rfl) (by kernel_rfl) (fun _ _ _ h => h) (Or.inl ⟨by rfl, ?yz26⟩) hHeld ?_
  case yz26 => intro w hSw; obtain ⟨⟨j0, j1⟩, _⟩ := blk2 ((hSw.block _ (lt_of_heap B14_11.out)).trans B14_11.out); go_simp
  simp only [Act.put, List.getElem_toArray, List.getElem_cons_succ, List.getElem_cons_zero, List.setIfInBounds_toArray, List.set_cons_zero, List.set_cons_succ]
  refine wpAnyH_take (i := 27) (v := .slice a15 r15.length k15) rfl (by kernel_rfl) (by kernel_rfl) (by kernel_rfl) (fun _ _ _ h => h) (Or.inl ⟨by rfl, ?yz27⟩) hHeld ?_
  case yz27 => intro w hSw; go_simp
  simp only [Act.put, List.getElem_toArray, List.getElem_cons_succ, List.getElem_cons_zero, List.setIfInBounds_toArray, List.set_cons_zero, List.set_cons_succ]
  refine wpAnyH_take (i := 28) (v := .int .i64 sz) rfl (by kernel_rfl) (by kernel_rfl) (by kernel_rfl) (fun _ _ _ h => h) (Or.inl ⟨by rfl, ?yz28⟩) hHeld ?_
  case yz28 => intro w hSw; go_simp
  simp only [Act.put, List.getElem_toArray, List.getElem_cons_succ, List.getElem_cons_zero, List.setIfInBounds_toArray, List.set_cons_zero, List.set_cons_succ]
  refine wpAnyH_take (i := 30) (v := .agg #[.int .i64 c14, .slice a14 t14.length k14]) rfl (by kernel_rfl) (by kernel_rfl) (by kernel_rfl) (fun _ _ _ h => h) (Or.inl ⟨by rfl, ?yz30⟩) hHeld ?_
  case yz30 => intro w hSw; obtain ⟨⟨j0, j1⟩, _⟩ := blk2 ((hSw.block _ (lt_of_heap B14_11.out)).trans B14_11.out); go_simp
  simp only [Act.put, List.getElem_toArray, List.getElem_cons_succ, List.getElem_cons_zero, List.setIfInBounds_toArray, List.set_cons_zero, List.set_cons_succ]
  refine wpAnyH_take (i := 31) (v := .slice a15 r15.length k15) rfl (by kernel_rfl) (by kernel_rfl) (by kernel_rfl) (fun _ _ _ h => h) (Or.inl ⟨by rfl, ?yz31⟩) hHeld ?_
  case yz31 => intro w hSw; go_simp
  simp only [Act.put, List.getElem_toArray, List.getElem_cons_succ, List.getElem_cons_zero, List.setIfInBounds_toArray, List.set_cons_zero, List.set_cons_succ]
  refine wpAnyH_take (i := 32) (v := .int .i64 sz) rfl (by kernel_rfl) (by kernel_rfl) (by kernel_rfl) (fun _ _ _ h => h) (Or.inl ⟨by rfl, ?yz32⟩) hHeld ?_
  case yz32 => intro w hSw; go_simp
  simp only [Act.put, List.getElem_toArray, List.getElem_cons_succ, List.getElem_cons_zero, List.setIfInBounds_toArray, List.set_cons_zero, List.set_cons_succ]
  refine wpAnyH_ready (rs := [29]) (by kernel_rfl) (by simp) ?_
  refine AllReadyH.cons rfl (fun K hK => ?_) AllReadyH.nil
  rw [if_pos (by rfl)]
  simp only [List.getElem_toArray, List.getElem_cons_succ, List.getElem_cons_zero]
  go_wp2_with fail
  refine (impl_InArr c14 t14 (by have := P14.out.2.1; omega) r15 (by have := P15.out.1; omega) sz _ _ _ (AV.ofOwn8 (own_below8 O14_11.out hHeld)) (R15_11.out.later hHeld) iv HIV.out).mono ?_
  rintro e v3 ⟨rfl, hb5⟩
  go_wp2_with fail
  refine hK.out _ _ (hHeld.trans (hb5.mono hHeld.size)) (fun hHeld => ?_)
  refine wpAnyH_ready (rs := [33]) (by kernel_rfl) (by simp) ?_
  refine AllReadyH.cons rfl (fun K hK => ?_) AllReadyH.nil
  rw [if_pos (by rfl)]
  simp only [List.getElem_toArray, List.getElem_cons_succ, List.getElem_cons_zero]
  go_wp2_with fail
  refine (spec_InArr c14 t14 (by have := P14.out.2.1; omega) r15 (by have := P15.out.1; omega) P14.out.sz P15.out.sz sz _ _ _ (AV.ofOwn8 (own_below8 O14_11.out hHeld)) (R15_11.out.later hHeld) iv HIV.out).mono ?_
  rintro e v4 ⟨rfl, hb5⟩
  go_wp2_with fail
  refine hK.out _ _ (hHeld.trans (hb5.mono hHeld.size)) (fun hHeld => ?_)
  refine wpAnyH_take (i := 34) (v := .bool true) rfl (by kernel_rfl) (by kernel_rfl) (by kernel_rfl) (fun _ _ _ h => h) (Or.inl ⟨by rfl, ?yz34⟩) hHeld ?_
  case yz34 => intro w hSw; go_simp
  simp only [Act.put, List.getElem_toArray, List.getElem_cons_succ, List.getElem_cons_zero, List.setIfInBounds_toArray, List.set_cons_zero, List.set_cons_succ]
  refine wpAnyH_take (i := 35) (v := .bool true) rfl (by kernel_rfl) (by kernel_rfl) (by kernel_rfl) (fun _ _ _ h => h) (Or.inl ⟨by rfl, ?yz35⟩) hHeld ?_
  case yz35 => intro w hSw; go_simp
  simp only [Act.put, List.getElem_toArray, List.getElem_cons_succ, List.getElem_cons_zero, List.setIfInBounds_toArray, List.set_cons_zero, List.set_cons_succ]
  refine wpAnyH_take (i := 36) (v := .bool true) rfl (by kernel_rfl) (by kernel_rfl) (by kernel_rfl) (fun _ _ _ h => h) (Or.inl ⟨by rfl, ?yz36⟩) hHeld ?_
  case yz36 => intro w hSw; go_simp
  simp only [Act.put, List.getElem_toArray, List.getElem_cons_succ, List.getElem_cons_zero, List.setIfInBounds_toArray, List.set_cons_zero, List.set_cons_succ]
  refine wpAnyH_take (i := 37) (v := .slice a17 r17.length k17) rfl (by kernel_rfl) (by kernel_rfl) (by kernel_rfl) (fun _ _ _ h => h) (Or.inl ⟨by rfl, ?yz37⟩) hHeld ?_
  case yz37 => intro w hSw; go_simp
  simp only [Act.put, List.getElem_toArray, List.getElem_cons_succ, List.getElem_cons_zero, List.setIfInBounds_toArray, List.set_cons_zero, List.set_cons_succ]
  refine wpAnyH_take (i := 39) (v := .slice a17 r17.length k17) rfl (by kernel_rfl) (by kernel_rfl) (by kernel_rfl) (fun _ _ _ h => h) (Or.inl ⟨by rfl, ?yz39⟩) hHeld ?_
  case yz39 => intro w hSw; go_simp
  simp only [Act.put, List.getElem_toArray, List.getElem_cons_succ, List.getElem_cons_zero, List.setIfInBounds_toArray, List.set_cons_zero, List.set_cons_succ]
  refine wpAnyH_ready (rs := [38]) (by kernel_rfl) (by simp) ?_
  refine AllReadyH.cons rfl (fun K hK => ?_) AllReadyH.nil
  rw [if_pos (by rfl)]
  simp only [List.getElem_toArray, List.getElem_cons_succ, List.getElem_cons_zero]
  go_wp2_with fail
  refine (impl_Rounds r17 (by have := P17.out.1; omega) _ _ (R17_11.out.later hHeld)).mono ?_
  rintro e v5 ⟨rfl, hb5⟩
  go_wp2_with fail
  refine hK.out _ _ (hHeld.trans (hb5.mono hHeld.size)) (fun hHeld => ?_)
  refine wpAnyH_ready (rs := [40]) (by kernel_rfl) (by simp) ?_
  refine AllReadyH.cons rfl (fun K hK => ?_) AllReadyH.nil
  rw [if_pos (by rfl)]
  simp only [List.getElem_toArray, List.getElem_cons_succ, List.getElem_cons_zero]
  go_wp2_with fail
  refine (spec_Rounds r17 (by have := P17.out.1; omega) P17.out.sz _ _ (R17_11.out.later hHeld)).mono ?_
  rintro e v6 ⟨rfl, hb5⟩
  go_wp2_with fail
  refine hK.out _ _ (hHeld.trans (hb5.mono hHeld.size)) (fun hHeld => ?_)
  refine wpAnyH_take (i := 41) (v := .bool true) rfl (by kernel_rfl) (by kernel_rfl) (by kernel_rfl) (fun _ _ _ h => h) (Or.inl ⟨by rfl, ?yz41⟩) hHeld ?_
  case yz41 => intro w hSw; go_simp
  simp only [Act.put, List.getElem_toArray, List.getElem_cons_succ, List.getElem_cons_zero, List.setIfInBounds_toArray, List.set_cons_zero, List.set_cons_succ]
  refine wpAnyH_take (i := 42) (v := .bool true) rfl (by kernel_rfl) (by kernel_rfl) (by kernel_rfl) (fun _ _ _ h => h) (Or.inl ⟨by rfl, ?yz42⟩) hHeld ?_
  case yz42 => intro w hSw; go_simp
  simp only [Act.put, List.getElem_toArray, List.getElem_cons_succ, List.getElem_cons_zero, List.setIfInBounds_toArray, List.set_cons_zero, List.set_cons_succ]
  refine wpAnyH_take (i := 43) (v := .bool true) rfl (by kernel_rfl) (by kernel_rfl) (by kernel_rfl) (fun _ _ _ h => h) (Or.inl ⟨by rfl, ?yz43⟩) hHeld ?_
  case yz43 => intro w hSw; go_simp
  simp only [Act.put, List.getElem_toArray, List.getElem_cons_succ, List.getElem_cons_zero, List.setIfInBounds_toArray, List.set_cons_zero, List.set_cons_succ]
  refine wpAnyH_done (by kernel_rfl) ?_ _
  have BF := LO_11.out.trans (hHeld.mono LO_11.out.size)
  clear hHeld
  go_wp2
  go_ret
  exact ⟨rfl, BF⟩
end Go.Proofs.Ythecjaonbmefgaa
