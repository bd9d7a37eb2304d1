/-
  Texts in one: AffsBentLaw, AffsP.
-/
import Derived.Test.YtfacenfiocdbgaaP22ofFnAffs
import Derived.Test.YtfacenfiocdbgaaP29ofFnAffs
import Derived.Test.YtfacenfiocdbgaaP30ofFnAffs
import Derived.Test.YtfacenfiocdbgaaP14ofFnAffs
import Derived.Test.YtfacenfiocdbgaaP31ofFnAffs
import Derived.Test.YtfacenfiocdbgaaP15ofFnAffs
import Derived.Test.YtfacenfiocdbgaaAffOkS
/-
  The walk of laws.FnAffsBent.
-/
namespace Go.Proofs.Ytfacenfiocdbgaa
open Go.RowKit Go.Lib
set_option linter.unusedSimpArgs false
set_option linter.unusedVariables false

theorem any_bytes : ∀ (ts : List AR), (∀ t ∈ ts, t.s.size ≤ 3) → abytes ts ≤ 3 * ts.length
  | [], _ => by simp [abytes]
  | t :: ts, h => by
    have h1 := h t (by simp)
    have h2 := any_bytes ts (fun u hu => h u (by simp [hu]))
    simp only [abytes, List.length_cons]; omega
theorem Any8.size {c : Int} {ts : List AR} (h : Any8 c ts) : asize ts ≤ 16 := by
  have h1 := any_bytes ts (fun t ht => (h.2.2 t ht).1)
  have h2 := h.2.1
  unfold asize; omega
theorem Any8.e {c : Int} {ts : List AR} (h : Any8 c ts) : ∀ t ∈ ts, t.s.size ≤ 9223372036854775807 ∧ (-9223372036854775808 ≤ t.n ∧ t.n ≤ 9223372036854775807) := fun t ht => by
  obtain ⟨h1, h2, h3⟩ := h.2.2 t ht
  exact ⟨by omega, h2, h3⟩
theorem alloc2_below (w : World) (a b : Obj) : Below w.heap.size w ((w.alloc a).alloc b) := (alloc_below w _).alloc (by simp) _
set_option maxHeartbeats 4000000 in
set_option maxRecDepth 100000 in
theorem affsBent_walk (a : Option Addr) (len cap : Nat) (w : World) (hC : CodeIs w.heap.size w a len) :
    Calls Try.prog 4 #[.slice a len cap] w fun e w' => e = .returned (.bool true) ∧ Below w.heap.size w w' := by
  have HC := Lib.hid hC
  clear hC
  go_enter Try.func4, Try.ntmps4
  go_wp2_with fail
  refine (big_is a len cap _).mono ?_
  rintro e w0 ⟨rfl, rfl⟩
  by_cases hbig : (1048576 : Int) < (len : Int)
  · have hb1 : decide ((1048576 : Int) < (len : Int)) = true := decide_eq_true hbig
    rw [hb1]
    go_wp2
    go_ret
    exact ⟨rfl, Below.refl _ _⟩
  have hb1 : decide ((1048576 : Int) < (len : Int)) = false := decide_eq_false hbig
  rw [hb1]
  have hlen : len ≤ 281474976710656 := by omega
  clear hb1 hbig
  have LO := Lib.hid (Below.refl w.heap.size w)
  go_wp2_with fail
  refine (DrawAffOk_is a len cap _ hlen HC.out).mono ?_
  rintro e w1 ⟨co, tq, vo, rfl, po, own1, hb⟩
  obtain ⟨oa, oc, rfl⟩ := ownShape own1
  have LO_1 := Lib.hid (LO.out.trans (hb.mono LO.out.size))
  clear LO 
  have Oo := Lib.hid own1
  have Po := Lib.hid po
  clear hb own1 po
  have ba := alloc_below w1 (.cells #[.int .i64 co, .slice oa tq.length oc] 26)
  have hh := heap_last w1 (.cells #[.int .i64 co, .slice oa tq.length oc] 26)
  obtain ⟨W1, hW1⟩ : ∃ W, Hid (W = w1.alloc (.cells #[.int .i64 co, .slice oa tq.length oc] 26)) := ⟨_, rfl⟩
  rw [← hW1.out] at ba hh
  go_wp2_with fail
  rw [← hW1.out]
  have LO_2 := Lib.hid (LO_1.out.trans (ba.mono LO_1.out.size))
  have Oo_2 := Lib.hid (own_below8 Oo.out ba)
  clear LO_1 Oo 
  have Bo := Lib.hid hh
  clear ba hh hW1
  refine (DrawAddA_is a len cap _ hlen ((HC.out.later LO_2.out).mono LO_2.out.size)).mono ?_
  rintro e w2 ⟨c0, c1, ts0, ts1, v0, v1, rfl, p0, p1, own0, own1, hb⟩
  obtain ⟨a0, k0, rfl⟩ := ownShape own0
  obtain ⟨a1, k1, rfl⟩ := ownShape own1
  have LO_3 := Lib.hid (LO_2.out.trans (hb.mono LO_2.out.size))
  have Oo_3 := Lib.hid (own_below8 Oo_2.out hb)
  have Bo_3 := Lib.hid (heap_b8 Bo.out hb)
  clear LO_2 Oo_2 Bo 
  have O0 := Lib.hid own0
  have O1 := Lib.hid own1
  have P0 := Lib.hid p0
  have P1 := Lib.hid p1
  clear hb own0 own1 p0 p1
  have ba := alloc2_below w2 (.cells #[.int .i64 c0, .slice a0 ts0.length k0] 26) (.cells #[.int .i64 c1, .slice a1 ts1.length k1] 26)
  obtain ⟨h0, h1⟩ := heap2t w2 (.cells #[.int .i64 c0, .slice a0 ts0.length k0] 26) (.cells #[.int .i64 c1, .slice a1 ts1.length k1] 26)
  obtain ⟨⟨y0, y1⟩, _⟩ := blk2 h0
  obtain ⟨⟨y2, y3⟩, _⟩ := blk2 h1
  obtain ⟨W2, hW2⟩ : ∃ W, Hid (W = (w2.alloc (.cells #[.int .i64 c0, .slice a0 ts0.length k0] 26)).alloc (.cells #[.int .i64 c1, .slice a1 ts1.length k1] 26)) := ⟨_, rfl⟩
  rw [← hW2.out] at ba h0 h1
  go_wp2_with fail
  rw [← hW2.out]
  have LO_4 := Lib.hid (LO_3.out.trans (ba.mono LO_3.out.size))
  have Oo_4 := Lib.hid (own_below8 Oo_3.out ba)
  have Bo_4 := Lib.hid (heap_b8 Bo_3.out ba)
  have O0_4 := Lib.hid (own_below8 O0.out ba)
  have O1_4 := Lib.hid (own_below8 O1.out ba)
  clear LO_3 Oo_3 Bo_3 O0 O1 y0 y1 y2 y3
  have B0 := Lib.hid h0
  have B1 := Lib.hid h1
  clear ba h0 h1 hW2
  obtain ⟨okA, dA, LA, hA⟩ : ∃ ok dd L, L.length ≤ 1048576 ∧ (∀ w' ua ub, AV w' 0 ua ts0 → AV w' 0 ub ts1 → Calls Try.prog 17 #[.agg #[.int .i64 c0, ua], .agg #[.int .i64 c1, ub]] w' (Out8 w' ok dd L)) ∧
      (∀ w' ua ub, AV w' 0 ua ts0 → AV w' 0 ub ts1 → Cap8 ua → Cap8 ub → Calls Try.prog 9 #[.agg #[.int .i64 c0, ua], .agg #[.int .i64 c1, ub]] w' (Out8 w' ok dd L)) := ⟨_, _, _, add_both8 c0 c1 ts0 ts1 P1.out.1 P1.out.e _ _ _ rfl rfl rfl (by have h1 := P0.out.size; have h2 := P1.out.size; omega)⟩
  obtain ⟨okS, dS, LS, hS⟩ : ∃ ok dd L, L.length ≤ 1048576 ∧ (∀ w' ua ub, AV w' 0 ua ts0 → AV w' 0 ub ts1 → Calls Try.prog 18 #[.agg #[.int .i64 c0, ua], .agg #[.int .i64 c1, ub]] w' (Out8 w' ok dd L)) ∧
      (∀ w' ua ub, AV w' 0 ua ts0 → AV w' 0 ub ts1 → Cap8 ua → Cap8 ub → Calls Try.prog 10 #[.agg #[.int .i64 c0, ua], .agg #[.int .i64 c1, ub]] w' (Out8 w' ok dd L)) := ⟨_, _, _, sub_both8 c0 c1 ts0 ts1 P1.out.1 P1.out.e _ _ _ rfl rfl rfl (by have h1 := P0.out.size; have h2 := P1.out.size; omega)⟩
  have HA := Lib.hid hA
  have HS := Lib.hid hS
  clear hA hS
  refine (HA.out.2.2 _ _ _ (AV.ofOwn8 O0_4.out) (AV.ofOwn8 O1_4.out) (capOwn8 O0_4.out) (capOwn8 O1_4.out)).mono ?_
  rintro e w3 ⟨u6, rfl, own5, hb⟩
  obtain ⟨x6, z6, rfl⟩ := ownShape own5
  have LO_5 := Lib.hid (LO_4.out.trans (hb.mono LO_4.out.size))
  have Oo_5 := Lib.hid (own_below8 Oo_4.out hb)
  have Bo_5 := Lib.hid (heap_b8 Bo_4.out hb)
  have O0_5 := Lib.hid (own_below8 O0_4.out hb)
  have O1_5 := Lib.hid (own_below8 O1_4.out hb)
  have B0_5 := Lib.hid (heap_b8 B0.out hb)
  have B1_5 := Lib.hid (heap_b8 B1.out hb)
  clear LO_4 Oo_4 Bo_4 O0_4 O1_4 B0 B1 
  have O6 := Lib.hid own5
  clear hb own5
  have ba := alloc_below w3 (.cells #[.int .i64 dA, .slice x6 LA.length z6] 26)
  have hh := heap_last w3 (.cells #[.int .i64 dA, .slice x6 LA.length z6] 26)
  obtain ⟨⟨y0, y1⟩, _⟩ := blk2 (heap_b8 B0_5.out ba)
  obtain ⟨⟨y2, y3⟩, _⟩ := blk2 (heap_b8 B1_5.out ba)
  obtain ⟨W3, hW3⟩ : ∃ W, Hid (W = w3.alloc (.cells #[.int .i64 dA, .slice x6 LA.length z6] 26)) := ⟨_, rfl⟩
  rw [← hW3.out] at ba hh
  go_wp2_with fail
  rw [← hW3.out]
  have LO_6 := Lib.hid (LO_5.out.trans (ba.mono LO_5.out.size))
  have Oo_6 := Lib.hid (own_below8 Oo_5.out ba)
  have Bo_6 := Lib.hid (heap_b8 Bo_5.out ba)
  have O0_6 := Lib.hid (own_below8 O0_5.out ba)
  have O1_6 := Lib.hid (own_below8 O1_5.out ba)
  have B0_6 := Lib.hid (heap_b8 B0_5.out ba)
  have B1_6 := Lib.hid (heap_b8 B1_5.out ba)
  have O6_6 := Lib.hid (own_below8 O6.out ba)
  clear LO_5 Oo_5 Bo_5 O0_5 O1_5 B0_5 B1_5 O6 y0 y1 y2 y3
  have B6 := Lib.hid hh
  clear ba hh hW3
  refine (HA.out.2.1 _ _ _ (AV.ofOwn8 O0_6.out) (AV.ofOwn8 O1_6.out)).mono ?_
  rintro e w4 ⟨u8, rfl, own5, hb⟩
  obtain ⟨x8, z8, rfl⟩ := ownShape own5
  have LO_7 := Lib.hid (LO_6.out.trans (hb.mono LO_6.out.size))
  have Oo_7 := Lib.hid (own_below8 Oo_6.out hb)
  have Bo_7 := Lib.hid (heap_b8 Bo_6.out hb)
  have O0_7 := Lib.hid (own_below8 O0_6.out hb)
  have O1_7 := Lib.hid (own_below8 O1_6.out hb)
  have B0_7 := Lib.hid (heap_b8 B0_6.out hb)
  have B1_7 := Lib.hid (heap_b8 B1_6.out hb)
  have O6_7 := Lib.hid (own_below8 O6_6.out hb)
  have B6_7 := Lib.hid (heap_b8 B6.out hb)
  clear LO_6 Oo_6 Bo_6 O0_6 O1_6 B0_6 B1_6 O6_6 B6 
  have O8 := Lib.hid own5
  clear hb own5
  have ba := alloc_below w4 (.cells #[.int .i64 dA, .slice x8 LA.length z8] 26)
  have hh := heap_last w4 (.cells #[.int .i64 dA, .slice x8 LA.length z8] 26)
  obtain ⟨⟨y0, y1⟩, _⟩ := blk2 (heap_b8 B0_7.out ba)
  obtain ⟨⟨y2, y3⟩, _⟩ := blk2 (heap_b8 B1_7.out ba)
  obtain ⟨W4, hW4⟩ : ∃ W, Hid (W = w4.alloc (.cells #[.int .i64 dA, .slice x8 LA.length z8] 26)) := ⟨_, rfl⟩
  rw [← hW4.out] at ba hh
  go_wp2_with fail
  rw [← hW4.out]
  have LO_8 := Lib.hid (LO_7.out.trans (ba.mono LO_7.out.size))
  have Oo_8 := Lib.hid (own_below8 Oo_7.out ba)
  have Bo_8 := Lib.hid (heap_b8 Bo_7.out ba)
  have O0_8 := Lib.hid (own_below8 O0_7.out ba)
  have O1_8 := Lib.hid (own_below8 O1_7.out ba)
  have B0_8 := Lib.hid (heap_b8 B0_7.out ba)
  have B1_8 := Lib.hid (heap_b8 B1_7.out ba)
  have O6_8 := Lib.hid (own_below8 O6_7.out ba)
  have B6_8 := Lib.hid (heap_b8 B6_7.out ba)
  have O8_8 := Lib.hid (own_below8 O8.out ba)
  clear LO_7 Oo_7 Bo_7 O0_7 O1_7 B0_7 B1_7 O6_7 B6_7 O8 y0 y1 y2 y3
  have B8 := Lib.hid hh
  clear ba hh hW4
  refine (HS.out.2.2 _ _ _ (AV.ofOwn8 O0_8.out) (AV.ofOwn8 O1_8.out) (capOwn8 O0_8.out) (capOwn8 O1_8.out)).mono ?_
  rintro e w5 ⟨u10, rfl, own5, hb⟩
  obtain ⟨x10, z10, rfl⟩ := ownShape own5
  have LO_9 := Lib.hid (LO_8.out.trans (hb.mono LO_8.out.size))
  have Oo_9 := Lib.hid (own_below8 Oo_8.out hb)
  have Bo_9 := Lib.hid (heap_b8 Bo_8.out hb)
  have O0_9 := Lib.hid (own_below8 O0_8.out hb)
  have O1_9 := Lib.hid (own_below8 O1_8.out hb)
  have B0_9 := Lib.hid (heap_b8 B0_8.out hb)
  have B1_9 := Lib.hid (heap_b8 B1_8.out hb)
  have O6_9 := Lib.hid (own_below8 O6_8.out hb)
  have B6_9 := Lib.hid (heap_b8 B6_8.out hb)
  have O8_9 := Lib.hid (own_below8 O8_8.out hb)
  have B8_9 := Lib.hid (heap_b8 B8.out hb)
  clear LO_8 Oo_8 Bo_8 O0_8 O1_8 B0_8 B1_8 O6_8 B6_8 O8_8 B8 
  have O10 := Lib.hid own5
  clear hb own5
  have ba := alloc_below w5 (.cells #[.int .i64 dS, .slice x10 LS.length z10] 26)
  have hh := heap_last w5 (.cells #[.int .i64 dS, .slice x10 LS.length z10] 26)
  obtain ⟨⟨y0, y1⟩, _⟩ := blk2 (heap_b8 B0_9.out ba)
  obtain ⟨⟨y2, y3⟩, _⟩ := blk2 (heap_b8 B1_9.out ba)
  obtain ⟨W5, hW5⟩ : ∃ W, Hid (W = w5.alloc (.cells #[.int .i64 dS, .slice x10 LS.length z10] 26)) := ⟨_, rfl⟩
  rw [← hW5.out] at ba hh
  go_wp2_with fail
  rw [← hW5.out]
  have LO_10 := Lib.hid (LO_9.out.trans (ba.mono LO_9.out.size))
  have Oo_10 := Lib.hid (own_below8 Oo_9.out ba)
  have Bo_10 := Lib.hid (heap_b8 Bo_9.out ba)
  have O0_10 := Lib.hid (own_below8 O0_9.out ba)
  have O1_10 := Lib.hid (own_below8 O1_9.out ba)
  have B0_10 := Lib.hid (heap_b8 B0_9.out ba)
  have B1_10 := Lib.hid (heap_b8 B1_9.out ba)
  have O6_10 := Lib.hid (own_below8 O6_9.out ba)
  have B6_10 := Lib.hid (heap_b8 B6_9.out ba)
  have O8_10 := Lib.hid (own_below8 O8_9.out ba)
  have B8_10 := Lib.hid (heap_b8 B8_9.out ba)
  have O10_10 := Lib.hid (own_below8 O10.out ba)
  clear LO_9 Oo_9 Bo_9 O0_9 O1_9 B0_9 B1_9 O6_9 B6_9 O8_9 B8_9 O10 y0 y1 y2 y3
  have B10 := Lib.hid hh
  clear ba hh hW5
  refine (HS.out.2.1 _ _ _ (AV.ofOwn8 O0_10.out) (AV.ofOwn8 O1_10.out)).mono ?_
  rintro e w6 ⟨u12, rfl, own5, hb⟩
  obtain ⟨x12, z12, rfl⟩ := ownShape own5
  have LO_11 := Lib.hid (LO_10.out.trans (hb.mono LO_10.out.size))
  have Oo_11 := Lib.hid (own_below8 Oo_10.out hb)
  have Bo_11 := Lib.hid (heap_b8 Bo_10.out hb)
  have O0_11 := Lib.hid (own_below8 O0_10.out hb)
  have O1_11 := Lib.hid (own_below8 O1_10.out hb)
  have B0_11 := Lib.hid (heap_b8 B0_10.out hb)
  have B1_11 := Lib.hid (heap_b8 B1_10.out hb)
  have O6_11 := Lib.hid (own_below8 O6_10.out hb)
  have B6_11 := Lib.hid (heap_b8 B6_10.out hb)
  have O8_11 := Lib.hid (own_below8 O8_10.out hb)
  have B8_11 := Lib.hid (heap_b8 B8_10.out hb)
  have O10_11 := Lib.hid (own_below8 O10_10.out hb)
  have B10_11 := Lib.hid (heap_b8 B10.out hb)
  clear LO_10 Oo_10 Bo_10 O0_10 O1_10 B0_10 B1_10 O6_10 B6_10 O8_10 B8_10 O10_10 B10 
  have O12 := Lib.hid own5
  clear hb own5
  have ba := alloc_below w6 (.cells #[.int .i64 dS, .slice x12 LS.length z12] 26)
  have hh := heap_last w6 (.cells #[.int .i64 dS, .slice x12 LS.length z12] 26)
  obtain ⟨W6, hW6⟩ : ∃ W, Hid (W = w6.alloc (.cells #[.int .i64 dS, .slice x12 LS.length z12] 26)) := ⟨_, rfl⟩
  rw [← hW6.out] at ba hh
  go_wp2_with fail
  rw [← hW6.out]
  have LO_12 := Lib.hid (LO_11.out.trans (ba.mono LO_11.out.size))
  have Oo_12 := Lib.hid (own_below8 Oo_11.out ba)
  have Bo_12 := Lib.hid (heap_b8 Bo_11.out ba)
  have O0_12 := Lib.hid (own_below8 O0_11.out ba)
  have O1_12 := Lib.hid (own_below8 O1_11.out ba)
  have B0_12 := Lib.hid (heap_b8 B0_11.out ba)
  have B1_12 := Lib.hid (heap_b8 B1_11.out ba)
  have O6_12 := Lib.hid (own_below8 O6_11.out ba)
  have B6_12 := Lib.hid (heap_b8 B6_11.out ba)
  have O8_12 := Lib.hid (own_below8 O8_11.out ba)
  have B8_12 := Lib.hid (heap_b8 B8_11.out ba)
  have O10_12 := Lib.hid (own_below8 O10_11.out ba)
  have B10_12 := Lib.hid (heap_b8 B10_11.out ba)
  have O12_12 := Lib.hid (own_below8 O12.out ba)
  clear LO_11 Oo_11 Bo_11 O0_11 O1_11 B0_11 B1_11 O6_11 B6_11 O8_11 B8_11 O10_11 B10_11 O12 
  have B12 := Lib.hid hh
  clear ba hh hW6
  refine (DrawAffAt_is a len cap _ hlen ((HC.out.later LO_12.out).mono LO_12.out.size)).mono ?_
  rintro e w7 ⟨cc, tc, bs, v14, v15, rfl, pc, pb, own0, own1, hb⟩
  obtain ⟨ca, ck, rfl⟩ := ownShape own0
  obtain ⟨ba5, bk5, rfl⟩ := ownShape own1
  have LO_13 := Lib.hid (LO_12.out.trans (hb.mono LO_12.out.size))
  have Oo_13 := Lib.hid (own_below8 Oo_12.out hb)
  have Bo_13 := Lib.hid (heap_b8 Bo_12.out hb)
  have O0_13 := Lib.hid (own_below8 O0_12.out hb)
  have O1_13 := Lib.hid (own_below8 O1_12.out hb)
  have B0_13 := Lib.hid (heap_b8 B0_12.out hb)
  have B1_13 := Lib.hid (heap_b8 B1_12.out hb)
  have O6_13 := Lib.hid (own_below8 O6_12.out hb)
  have B6_13 := Lib.hid (heap_b8 B6_12.out hb)
  have O8_13 := Lib.hid (own_below8 O8_12.out hb)
  have B8_13 := Lib.hid (heap_b8 B8_12.out hb)
  have O10_13 := Lib.hid (own_below8 O10_12.out hb)
  have B10_13 := Lib.hid (heap_b8 B10_12.out hb)
  have O12_13 := Lib.hid (own_below8 O12_12.out hb)
  have B12_13 := Lib.hid (heap_b8 B12.out hb)
  clear LO_12 Oo_12 Bo_12 O0_12 O1_12 B0_12 B1_12 O6_12 B6_12 O8_12 B8_12 O10_12 B10_12 O12_12 B12 
  have O14 := Lib.hid own0
  have O15 := Lib.hid own1
  have P14 := Lib.hid pc
  have P15 := Lib.hid pb
  clear hb own0 own1 pc pb
  have ba := alloc_below w7 (.cells #[.int .i64 cc, .slice ca tc.length ck] 26)
  have hh := heap_last w7 (.cells #[.int .i64 cc, .slice ca tc.length ck] 26)
  obtain ⟨W7, hW7⟩ : ∃ W, Hid (W = w7.alloc (.cells #[.int .i64 cc, .slice ca tc.length ck] 26)) := ⟨_, rfl⟩
  rw [← hW7.out] at ba hh
  go_wp2_with fail
  rw [← hW7.out]
  have LO_14 := Lib.hid (LO_13.out.trans (ba.mono LO_13.out.size))
  have Oo_14 := Lib.hid (own_below8 Oo_13.out ba)
  have Bo_14 := Lib.hid (heap_b8 Bo_13.out ba)
  have O0_14 := Lib.hid (own_below8 O0_13.out ba)
  have O1_14 := Lib.hid (own_below8 O1_13.out ba)
  have B0_14 := Lib.hid (heap_b8 B0_13.out ba)
  have B1_14 := Lib.hid (heap_b8 B1_13.out ba)
  have O6_14 := Lib.hid (own_below8 O6_13.out ba)
  have B6_14 := Lib.hid (heap_b8 B6_13.out ba)
  have O8_14 := Lib.hid (own_below8 O8_13.out ba)
  have B8_14 := Lib.hid (heap_b8 B8_13.out ba)
  have O10_14 := Lib.hid (own_below8 O10_13.out ba)
  have B10_14 := Lib.hid (heap_b8 B10_13.out ba)
  have O12_14 := Lib.hid (own_below8 O12_13.out ba)
  have B12_14 := Lib.hid (heap_b8 B12_13.out ba)
  have O14_14 := Lib.hid (own_below8 O14.out ba)
  have O15_14 := Lib.hid (own_below8 O15.out ba)
  clear LO_13 Oo_13 Bo_13 O0_13 O1_13 B0_13 B1_13 O6_13 B6_13 O8_13 B8_13 O10_13 B10_13 O12_13 B12_13 O14 O15 
  have B14 := Lib.hid hh
  clear ba hh hW7
  refine (DrawCoefOf_is a len cap _ hlen ((HC.out.later LO_14.out).mono LO_14.out.size)).mono ?_
  rintro e w8 ⟨cd, td, v16, ss, rfl, pd, hss, own0, hb⟩
  obtain ⟨da, dk, rfl⟩ := ownShape own0
  have LO_15 := Lib.hid (LO_14.out.trans (hb.mono LO_14.out.size))
  have Oo_15 := Lib.hid (own_below8 Oo_14.out hb)
  have Bo_15 := Lib.hid (heap_b8 Bo_14.out hb)
  have O0_15 := Lib.hid (own_below8 O0_14.out hb)
  have O1_15 := Lib.hid (own_below8 O1_14.out hb)
  have B0_15 := Lib.hid (heap_b8 B0_14.out hb)
  have B1_15 := Lib.hid (heap_b8 B1_14.out hb)
  have O6_15 := Lib.hid (own_below8 O6_14.out hb)
  have B6_15 := Lib.hid (heap_b8 B6_14.out hb)
  have O8_15 := Lib.hid (own_below8 O8_14.out hb)
  have B8_15 := Lib.hid (heap_b8 B8_14.out hb)
  have O10_15 := Lib.hid (own_below8 O10_14.out hb)
  have B10_15 := Lib.hid (heap_b8 B10_14.out hb)
  have O12_15 := Lib.hid (own_below8 O12_14.out hb)
  have B12_15 := Lib.hid (heap_b8 B12_14.out hb)
  have O14_15 := Lib.hid (own_below8 O14_14.out hb)
  have O15_15 := Lib.hid (own_below8 O15_14.out hb)
  have B14_15 := Lib.hid (heap_b8 B14.out hb)
  clear LO_14 Oo_14 Bo_14 O0_14 O1_14 B0_14 B1_14 O6_14 B6_14 O8_14 B8_14 O10_14 B10_14 O12_14 B12_14 O14_14 O15_14 B14 
  have O16 := Lib.hid own0
  have P16 := Lib.hid pd
  clear hb own0 pd hss
  have ba := alloc_below w8 (.cells #[.int .i64 cd, .slice da td.length dk] 26)
  have hh := heap_last w8 (.cells #[.int .i64 cd, .slice da td.length dk] 26)
  go_wp2_with fail
  obtain ⟨wz, Wz⟩ : ∃ W, Hid (W = (w8.alloc (.cells #[.int .i64 cd, .slice da td.length dk] 26)).drew) := ⟨_, rfl⟩
  have bd : Below (w8.alloc (.cells #[.int .i64 cd, .slice da td.length dk] 26)).heap.size (w8.alloc (.cells #[.int .i64 cd, .slice da td.length dk] 26)) wz := by rw [Wz.out]; exact (Below.refl _ _).drew
  have hh2 := heap_b8 hh bd
  have ba2 := ba.trans (bd.mono ba.size)
  have bz : Below wz.heap.size wz wz := Below.refl _ _
  refine wp_region_held_drew (S := Below wz.heap.size wz) (by kernel_rfl) (by rw [← Wz.out]; exact bz) (fun hHeld => ?_)
  rw [← Wz.out] at hHeld ⊢
  have LO_16 := Lib.hid (LO_15.out.trans (ba2.mono LO_15.out.size))
  have Oo_16 := Lib.hid (own_below8 Oo_15.out ba2)
  have Bo_16 := Lib.hid (heap_b8 Bo_15.out ba2)
  have O0_16 := Lib.hid (own_below8 O0_15.out ba2)
  have O1_16 := Lib.hid (own_below8 O1_15.out ba2)
  have B0_16 := Lib.hid (heap_b8 B0_15.out ba2)
  have B1_16 := Lib.hid (heap_b8 B1_15.out ba2)
  have O6_16 := Lib.hid (own_below8 O6_15.out ba2)
  have B6_16 := Lib.hid (heap_b8 B6_15.out ba2)
  have O8_16 := Lib.hid (own_below8 O8_15.out ba2)
  have B8_16 := Lib.hid (heap_b8 B8_15.out ba2)
  have O10_16 := Lib.hid (own_below8 O10_15.out ba2)
  have B10_16 := Lib.hid (heap_b8 B10_15.out ba2)
  have O12_16 := Lib.hid (own_below8 O12_15.out ba2)
  have B12_16 := Lib.hid (heap_b8 B12_15.out ba2)
  have O14_16 := Lib.hid (own_below8 O14_15.out ba2)
  have O15_16 := Lib.hid (own_below8 O15_15.out ba2)
  have B14_16 := Lib.hid (heap_b8 B14_15.out ba2)
  have O16_16 := Lib.hid (own_below8 O16.out ba2)
  clear LO_15 Oo_15 Bo_15 O0_15 O1_15 B0_15 B1_15 O6_15 B6_15 O8_15 B8_15 O10_15 B10_15 O12_15 B12_15 O14_15 O15_15 B14_15 O16 
  have B16 := Lib.hid hh2
  clear ba hh hh2 ba2 bd Wz bz
  refine wpAnyH_take (i := 0) (v := .agg #[.int .i64 co, .slice oa tq.length oc]) rfl (by kernel_rfl) (by kernel_rfl) (by kernel_rfl) (fun _ _ _ h => h) (Or.inl ⟨by rfl, ?yz0⟩) hHeld ?_
  case yz0 => intro w hSw; obtain ⟨⟨j0, j1⟩, _⟩ := blk2 ((hSw.block _ (lt_of_heap Bo_16.out)).trans Bo_16.out); go_simp
  simp only [Act.put, List.getElem_toArray, List.getElem_cons_succ, List.getElem_cons_zero, List.setIfInBounds_toArray, List.set_cons_zero, List.set_cons_succ]
  refine wpAnyH_take (i := 2) (v := .agg #[.int .i64 co, .slice oa tq.length oc]) rfl (by kernel_rfl) (by kernel_rfl) (by kernel_rfl) (fun _ _ _ h => h) (Or.inl ⟨by rfl, ?yz2⟩) hHeld ?_
  case yz2 => intro w hSw; obtain ⟨⟨j0, j1⟩, _⟩ := blk2 ((hSw.block _ (lt_of_heap Bo_16.out)).trans Bo_16.out); go_simp
  simp only [Act.put, List.getElem_toArray, List.getElem_cons_succ, List.getElem_cons_zero, List.setIfInBounds_toArray, List.set_cons_zero, List.set_cons_succ]
  obtain ⟨tv, htv⟩ : ∃ tv, affOk8 co tq = tv := ⟨_, rfl⟩
  refine wpAnyH_ready (rs := [1]) (by kernel_rfl) (by simp) ?_
  refine AllReadyH.cons rfl (fun K hK => ?_) AllReadyH.nil
  rw [if_pos (by rfl)]
  simp only [List.getElem_toArray, List.getElem_cons_succ, List.getElem_cons_zero]
  go_wp2_with fail
  refine (impl_AffOk co tq (by have := Po.out.2.1; omega) _ _ (AV.ofOwn8 (own_below8 Oo_16.out hHeld)) tv htv).mono ?_
  rintro e v1 ⟨rfl, hb5⟩
  go_wp2_with fail
  refine hK.out _ _ (hHeld.trans (hb5.mono hHeld.size)) (fun hHeld => ?_)
  refine wpAnyH_ready (rs := [3]) (by kernel_rfl) (by simp) ?_
  refine AllReadyH.cons rfl (fun K hK => ?_) AllReadyH.nil
  rw [if_pos (by rfl)]
  simp only [List.getElem_toArray, List.getElem_cons_succ, List.getElem_cons_zero]
  go_wp2_with fail
  refine (spec_AffOk co tq (by have := Po.out.2.1; omega) (fun t h => by have := (Po.out.2.2 t h).1; omega) _ _ (AV.ofOwn8 (own_below8 Oo_16.out hHeld)) tv htv).mono ?_
  rintro e v2 ⟨rfl, hb5⟩
  go_wp2_with fail
  refine hK.out _ _ (hHeld.trans (hb5.mono hHeld.size)) (fun hHeld => ?_)
  refine wpAnyH_take (i := 4) (v := .bool true) rfl (by kernel_rfl) (by kernel_rfl) (by kernel_rfl) (fun _ _ _ h => h) (Or.inl ⟨by rfl, ?yz4⟩) hHeld ?_
  case yz4 => intro w hSw; go_simp
  simp only [Act.put, List.getElem_toArray, List.getElem_cons_succ, List.getElem_cons_zero, List.setIfInBounds_toArray, List.set_cons_zero, List.set_cons_succ]
  refine wpAnyH_take (i := 5) (v := .bool true) rfl (by kernel_rfl) (by kernel_rfl) (by kernel_rfl) (fun _ _ _ h => h) (Or.inl ⟨by rfl, ?yz5⟩) hHeld ?_
  case yz5 => intro w hSw; go_simp
  simp only [Act.put, List.getElem_toArray, List.getElem_cons_succ, List.getElem_cons_zero, List.setIfInBounds_toArray, List.set_cons_zero, List.set_cons_succ]
  refine wpAnyH_take (i := 6) (v := .bool okA) rfl (by kernel_rfl) (by kernel_rfl) (by kernel_rfl) (fun _ _ _ h => h) (Or.inl ⟨by rfl, ?yz6⟩) hHeld ?_
  case yz6 => intro w hSw; go_simp
  simp only [Act.put, List.getElem_toArray, List.getElem_cons_succ, List.getElem_cons_zero, List.setIfInBounds_toArray, List.set_cons_zero, List.set_cons_succ]
  refine wpAnyH_take (i := 7) (v := .bool okA) rfl (by kernel_rfl) (by kernel_rfl) (by kernel_rfl) (fun _ _ _ h => h) (Or.inl ⟨by rfl, ?yz7⟩) hHeld ?_
  case yz7 => intro w hSw; go_simp
  simp only [Act.put, List.getElem_toArray, List.getElem_cons_succ, List.getElem_cons_zero, List.setIfInBounds_toArray, List.set_cons_zero, List.set_cons_succ]
  refine wpAnyH_take (i := 8) (v := .bool true) rfl (by kernel_rfl) (by kernel_rfl) (by kernel_rfl) (fun _ _ _ h => h) (Or.inl ⟨by rfl, ?yz8⟩) hHeld ?_
  case yz8 => intro w hSw; go_simp
  simp only [Act.put, List.getElem_toArray, List.getElem_cons_succ, List.getElem_cons_zero, List.setIfInBounds_toArray, List.set_cons_zero, List.set_cons_succ]
  refine wpAnyH_take (i := 9) (v := .bool true) rfl (by kernel_rfl) (by kernel_rfl) (by kernel_rfl) (fun _ _ _ h => h) (Or.inl ⟨by rfl, ?yz9⟩) hHeld ?_
  case yz9 => intro w hSw; go_simp
  simp only [Act.put, List.getElem_toArray, List.getElem_cons_succ, List.getElem_cons_zero, List.setIfInBounds_toArray, List.set_cons_zero, List.set_cons_succ]
  refine wpAnyH_take (i := 10) (v := .bool true) rfl (by kernel_rfl) (by kernel_rfl) (by kernel_rfl) (fun _ _ _ h => h) (Or.inl ⟨by rfl, ?yz10⟩) hHeld ?_
  case yz10 => intro w hSw; go_simp
  simp only [Act.put, List.getElem_toArray, List.getElem_cons_succ, List.getElem_cons_zero, List.setIfInBounds_toArray, List.set_cons_zero, List.set_cons_succ]
  refine wpAnyH_take (i := 11) (v := .agg #[.int .i64 dA, .slice x6 LA.length z6]) rfl (by kernel_rfl) (by kernel_rfl) (by kernel_rfl) (fun _ _ _ h => h) (Or.inl ⟨by rfl, ?yz11⟩) hHeld ?_
  case yz11 => intro w hSw; obtain ⟨⟨j0, j1⟩, _⟩ := blk2 ((hSw.block _ (lt_of_heap B6_16.out)).trans B6_16.out); go_simp
  simp only [Act.put, List.getElem_toArray, List.getElem_cons_succ, List.getElem_cons_zero, List.setIfInBounds_toArray, List.set_cons_zero, List.set_cons_succ]
  refine wpAnyH_take (i := 12) (v := .agg #[.int .i64 dA, .slice x8 LA.length z8]) rfl (by kernel_rfl) (by kernel_rfl) (by kernel_rfl) (fun _ _ _ h => h) (Or.inl ⟨by rfl, ?yz12⟩) hHeld ?_
  case yz12 => intro w hSw; obtain ⟨⟨j0, j1⟩, _⟩ := blk2 ((hSw.block _ (lt_of_heap B8_16.out)).trans B8_16.out); go_simp
  simp only [Act.put, List.getElem_toArray, List.getElem_cons_succ, List.getElem_cons_zero, List.setIfInBounds_toArray, List.set_cons_zero, List.set_cons_succ]
  refine wpAnyH_ready (rs := [13]) (by kernel_rfl) (by simp) ?_
  refine AllReadyH.cons rfl (fun K hK => ?_) AllReadyH.nil
  rw [if_pos (by rfl)]
  simp only [List.getElem_toArray, List.getElem_cons_succ, List.getElem_cons_zero]
  go_wp2_with fail
  refine (sameAff_is dA LA (by have := HA.out.1; omega) _ _ _ (AV.ofOwn8 (own_below8 O6_16.out hHeld)) (AV.ofOwn8 (own_below8 O8_16.out hHeld))).mono ?_
  rintro e v3 ⟨rfl, hb5⟩
  go_wp2_with fail
  refine hK.out _ _ (hHeld.trans (hb5.mono hHeld.size)) (fun hHeld => ?_)
  refine wpAnyH_take (i := 14) (v := .bool true) rfl (by kernel_rfl) (by kernel_rfl) (by kernel_rfl) (fun _ _ _ h => h) (Or.inl ⟨by rfl, ?yz14⟩) hHeld ?_
  case yz14 => intro w hSw; go_simp
  simp only [Act.put, List.getElem_toArray, List.getElem_cons_succ, List.getElem_cons_zero, List.setIfInBounds_toArray, List.set_cons_zero, List.set_cons_succ]
  refine wpAnyH_take (i := 15) (v := .bool true) rfl (by kernel_rfl) (by kernel_rfl) (by kernel_rfl) (fun _ _ _ h => h) (Or.inl ⟨by rfl, ?yz15⟩) hHeld ?_
  case yz15 => intro w hSw; go_simp
  simp only [Act.put, List.getElem_toArray, List.getElem_cons_succ, List.getElem_cons_zero, List.setIfInBounds_toArray, List.set_cons_zero, List.set_cons_succ]
  refine wpAnyH_take (i := 16) (v := .bool okS) rfl (by kernel_rfl) (by kernel_rfl) (by kernel_rfl) (fun _ _ _ h => h) (Or.inl ⟨by rfl, ?yz16⟩) hHeld ?_
  case yz16 => intro w hSw; go_simp
  simp only [Act.put, List.getElem_toArray, List.getElem_cons_succ, List.getElem_cons_zero, List.setIfInBounds_toArray, List.set_cons_zero, List.set_cons_succ]
  refine wpAnyH_take (i := 17) (v := .bool okS) rfl (by kernel_rfl) (by kernel_rfl) (by kernel_rfl) (fun _ _ _ h => h) (Or.inl ⟨by rfl, ?yz17⟩) hHeld ?_
  case yz17 => intro w hSw; go_simp
  simp only [Act.put, List.getElem_toArray, List.getElem_cons_succ, List.getElem_cons_zero, List.setIfInBounds_toArray, List.set_cons_zero, List.set_cons_succ]
  refine wpAnyH_take (i := 18) (v := .bool true) rfl (by kernel_rfl) (by kernel_rfl) (by kernel_rfl) (fun _ _ _ h => h) (Or.inl ⟨by rfl, ?yz18⟩) hHeld ?_
  case yz18 => intro w hSw; go_simp
  simp only [Act.put, List.getElem_toArray, List.getElem_cons_succ, List.getElem_cons_zero, List.setIfInBounds_toArray, List.set_cons_zero, List.set_cons_succ]
  refine wpAnyH_take (i := 19) (v := .bool true) rfl (by kernel_rfl) (by kernel_rfl) (by kernel_rfl) (fun _ _ _ h => h) (Or.inl ⟨by rfl, ?yz19⟩) hHeld ?_
  case yz19 => intro w hSw; go_simp
  simp only [Act.put, List.getElem_toArray, List.getElem_cons_succ, List.getElem_cons_zero, List.setIfInBounds_toArray, List.set_cons_zero, List.set_cons_succ]
  refine wpAnyH_take (i := 20) (v := .bool true) rfl (by kernel_rfl) (by kernel_rfl) (by kernel_rfl) (fun _ _ _ h => h) (Or.inl ⟨by rfl, ?yz20⟩) hHeld ?_
  case yz20 => intro w hSw; go_simp
  simp only [Act.put, List.getElem_toArray, List.getElem_cons_succ, List.getElem_cons_zero, List.setIfInBounds_toArray, List.set_cons_zero, List.set_cons_succ]
  refine wpAnyH_take (i := 21) (v := .agg #[.int .i64 dS, .slice x10 LS.length z10]) rfl (by kernel_rfl) (by kernel_rfl) (by kernel_rfl) (fun _ _ _ h => h) (Or.inl ⟨by rfl, ?yz21⟩) hHeld ?_
  case yz21 => intro w hSw; obtain ⟨⟨j0, j1⟩, _⟩ := blk2 ((hSw.block _ (lt_of_heap B10_16.out)).trans B10_16.out); go_simp
  simp only [Act.put, List.getElem_toArray, List.getElem_cons_succ, List.getElem_cons_zero, List.setIfInBounds_toArray, List.set_cons_zero, List.set_cons_succ]
  refine wpAnyH_take (i := 22) (v := .agg #[.int .i64 dS, .slice x12 LS.length z12]) rfl (by kernel_rfl) (by kernel_rfl) (by kernel_rfl) (fun _ _ _ h => h) (Or.inl ⟨by rfl, ?yz22⟩) hHeld ?_
  case yz22 => intro w hSw; obtain ⟨⟨j0, j1⟩, _⟩ := blk2 ((hSw.block _ (lt_of_heap B12_16.out)).trans B12_16.out); go_simp
  simp only [Act.put, List.getElem_toArray, List.getElem_cons_succ, List.getElem_cons_zero, List.setIfInBounds_toArray, List.set_cons_zero, List.set_cons_succ]
  refine wpAnyH_ready (rs := [23]) (by kernel_rfl) (by simp) ?_
  refine AllReadyH.cons rfl (fun K hK => ?_) AllReadyH.nil
  rw [if_pos (by rfl)]
  simp only [List.getElem_toArray, List.getElem_cons_succ, List.getElem_cons_zero]
  go_wp2_with fail
  refine (sameAff_is dS LS (by have := HS.out.1; omega) _ _ _ (AV.ofOwn8 (own_below8 O10_16.out hHeld)) (AV.ofOwn8 (own_below8 O12_16.out hHeld))).mono ?_
  rintro e v4 ⟨rfl, hb5⟩
  go_wp2_with fail
  refine hK.out _ _ (hHeld.trans (hb5.mono hHeld.size)) (fun hHeld => ?_)
  refine wpAnyH_take (i := 24) (v := .bool true) rfl (by kernel_rfl) (by kernel_rfl) (by kernel_rfl) (fun _ _ _ h => h) (Or.inl ⟨by rfl, ?yz24⟩) hHeld ?_
  case yz24 => intro w hSw; go_simp
  simp only [Act.put, List.getElem_toArray, List.getElem_cons_succ, List.getElem_cons_zero, List.setIfInBounds_toArray, List.set_cons_zero, List.set_cons_succ]
  refine wpAnyH_take (i := 25) (v := .bool true) rfl (by kernel_rfl) (by kernel_rfl) (by kernel_rfl) (fun _ _ _ h => h) (Or.inl ⟨by rfl, ?yz25⟩) hHeld ?_
  case yz25 => intro w hSw; go_simp
  simp only [Act.put, List.getElem_toArray, List.getElem_cons_succ, List.getElem_cons_zero, List.setIfInBounds_toArray, List.set_cons_zero, List.set_cons_succ]
  refine wpAnyH_take (i := 26) (v := .agg #[.int .i64 cc, .slice ca tc.length ck]) rfl (by kernel_rfl) (by kernel_rfl) (by kernel_rfl) (fun _ _ _ h => h) (Or.inl ⟨by rfl, ?yz26⟩) hHeld ?_
  case yz26 => intro w hSw; obtain ⟨⟨j0, j1⟩, _⟩ := blk2 ((hSw.block _ (lt_of_heap B14_16.out)).trans B14_16.out); go_simp
  simp only [Act.put, List.getElem_toArray, List.getElem_cons_succ, List.getElem_cons_zero, List.setIfInBounds_toArray, List.set_cons_zero, List.set_cons_succ]
  refine wpAnyH_take (i := 27) (v := .slice ba5 bs.length bk5) rfl (by kernel_rfl) (by kernel_rfl) (by kernel_rfl) (fun _ _ _ h => h) (Or.inl ⟨by rfl, ?yz27⟩) hHeld ?_
  case yz27 => intro w hSw; go_simp
  simp only [Act.put, List.getElem_toArray, List.getElem_cons_succ, List.getElem_cons_zero, List.setIfInBounds_toArray, List.set_cons_zero, List.set_cons_succ]
  refine wpAnyH_take (i := 29) (v := .agg #[.int .i64 cc, .slice ca tc.length ck]) rfl (by kernel_rfl) (by kernel_rfl) (by kernel_rfl) (fun _ _ _ h => h) (Or.inl ⟨by rfl, ?yz29⟩) hHeld ?_
  case yz29 => intro w hSw; obtain ⟨⟨j0, j1⟩, _⟩ := blk2 ((hSw.block _ (lt_of_heap B14_16.out)).trans B14_16.out); go_simp
  simp only [Act.put, List.getElem_toArray, List.getElem_cons_succ, List.getElem_cons_zero, List.setIfInBounds_toArray, List.set_cons_zero, List.set_cons_succ]
  refine wpAnyH_take (i := 30) (v := .slice ba5 bs.length bk5) rfl (by kernel_rfl) (by kernel_rfl) (by kernel_rfl) (fun _ _ _ h => h) (Or.inl ⟨by rfl, ?yz30⟩) hHeld ?_
  case yz30 => intro w hSw; go_simp
  simp only [Act.put, List.getElem_toArray, List.getElem_cons_succ, List.getElem_cons_zero, List.setIfInBounds_toArray, List.set_cons_zero, List.set_cons_succ]
  refine wpAnyH_ready (rs := [28]) (by kernel_rfl) (by simp) ?_
  refine AllReadyH.cons rfl (fun K hK => ?_) AllReadyH.nil
  rw [if_pos (by rfl)]
  simp only [List.getElem_toArray, List.getElem_cons_succ, List.getElem_cons_zero]
  go_wp2_with fail
  refine (impl_AffAt cc tc (by have := P14.out.2.1; omega) P14.out.1 bs (by have := P15.out.1; omega) _ _ _ (AV.ofOwn8 (own_below8 O14_16.out hHeld)) (AV.ofOwnB (own_below8 O15_16.out hHeld) rfl)).mono ?_
  rintro e v5 ⟨rfl, hb5⟩
  go_wp2_with fail
  refine hK.out _ _ (hHeld.trans (hb5.mono hHeld.size)) (fun hHeld => ?_)
  refine wpAnyH_ready (rs := [31]) (by kernel_rfl) (by simp) ?_
  refine AllReadyH.cons rfl (fun K hK => ?_) AllReadyH.nil
  rw [if_pos (by rfl)]
  simp only [List.getElem_toArray, List.getElem_cons_succ, List.getElem_cons_zero]
  go_wp2_with fail
  refine (spec_AffAt cc tc (by have := P14.out.2.1; omega) P14.out.1 bs (by have := P15.out.1; omega) _ _ _ (AV.ofOwn8 (own_below8 O14_16.out hHeld)) (AV.ofOwnB (own_below8 O15_16.out hHeld) rfl)).mono ?_
  rintro e v6 ⟨rfl, hb5⟩
  go_wp2_with fail
  refine hK.out _ _ (hHeld.trans (hb5.mono hHeld.size)) (fun hHeld => ?_)
  refine wpAnyH_take (i := 32) (v := .bool true) rfl (by kernel_rfl) (by kernel_rfl) (by kernel_rfl) (fun _ _ _ h => h) (Or.inl ⟨by rfl, ?yz32⟩) hHeld ?_
  case yz32 => intro w hSw; go_simp
  simp only [Act.put, List.getElem_toArray, List.getElem_cons_succ, List.getElem_cons_zero, List.setIfInBounds_toArray, List.set_cons_zero, List.set_cons_succ]
  refine wpAnyH_take (i := 33) (v := .bool true) rfl (by kernel_rfl) (by kernel_rfl) (by kernel_rfl) (fun _ _ _ h => h) (Or.inl ⟨by rfl, ?yz33⟩) hHeld ?_
  case yz33 => intro w hSw; go_simp
  simp only [Act.put, List.getElem_toArray, List.getElem_cons_succ, List.getElem_cons_zero, List.setIfInBounds_toArray, List.set_cons_zero, List.set_cons_succ]
  refine wpAnyH_take (i := 34) (v := .bool true) rfl (by kernel_rfl) (by kernel_rfl) (by kernel_rfl) (fun _ _ _ h => h) (Or.inl ⟨by rfl, ?yz34⟩) hHeld ?_
  case yz34 => intro w hSw; go_simp
  simp only [Act.put, List.getElem_toArray, List.getElem_cons_succ, List.getElem_cons_zero, List.setIfInBounds_toArray, List.set_cons_zero, List.set_cons_succ]
  refine wpAnyH_take (i := 35) (v := .agg #[.int .i64 cd, .slice da td.length dk]) rfl (by kernel_rfl) (by kernel_rfl) (by kernel_rfl) (fun _ _ _ h => h) (Or.inl ⟨by rfl, ?yz35⟩) hHeld ?_
  case yz35 => intro w hSw; obtain ⟨⟨j0, j1⟩, _⟩ := blk2 ((hSw.block _ (lt_of_heap B16.out)).trans B16.out); go_simp
  simp only [Act.put, List.getElem_toArray, List.getElem_cons_succ, List.getElem_cons_zero, List.setIfInBounds_toArray, List.set_cons_zero, List.set_cons_succ]
  refine wpAnyH_take (i := 36) (v := .string ss) rfl (by kernel_rfl) (by kernel_rfl) (by kernel_rfl) (fun _ _ _ h => h) (Or.inl ⟨by rfl, ?yz36⟩) hHeld ?_
  case yz36 => intro w hSw; go_simp
  simp only [Act.put, List.getElem_toArray, List.getElem_cons_succ, List.getElem_cons_zero, List.setIfInBounds_toArray, List.set_cons_zero, List.set_cons_succ]
  refine wpAnyH_take (i := 38) (v := .agg #[.int .i64 cd, .slice da td.length dk]) rfl (by kernel_rfl) (by kernel_rfl) (by kernel_rfl) (fun _ _ _ h => h) (Or.inl ⟨by rfl, ?yz38⟩) hHeld ?_
  case yz38 => intro w hSw; obtain ⟨⟨j0, j1⟩, _⟩ := blk2 ((hSw.block _ (lt_of_heap B16.out)).trans B16.out); go_simp
  simp only [Act.put, List.getElem_toArray, List.getElem_cons_succ, List.getElem_cons_zero, List.setIfInBounds_toArray, List.set_cons_zero, List.set_cons_succ]
  refine wpAnyH_take (i := 39) (v := .string ss) rfl (by kernel_rfl) (by kernel_rfl) (by kernel_rfl) (fun _ _ _ h => h) (Or.inl ⟨by rfl, ?yz39⟩) hHeld ?_
  case yz39 => intro w hSw; go_simp
  simp only [Act.put, List.getElem_toArray, List.getElem_cons_succ, List.getElem_cons_zero, List.setIfInBounds_toArray, List.set_cons_zero, List.set_cons_succ]
  refine wpAnyH_ready (rs := [37]) (by kernel_rfl) (by simp) ?_
  refine AllReadyH.cons rfl (fun K hK => ?_) AllReadyH.nil
  rw [if_pos (by rfl)]
  simp only [List.getElem_toArray, List.getElem_cons_succ, List.getElem_cons_zero]
  go_wp2_with fail
  refine (impl_CoefOf cd td (by have := P16.out.2.1; omega) ss _ _ (AV.ofOwn8 (own_below8 O16_16.out hHeld))).mono ?_
  rintro e v7 ⟨rfl, hb5⟩
  go_wp2_with fail
  refine hK.out _ _ (hHeld.trans (hb5.mono hHeld.size)) (fun hHeld => ?_)
  refine wpAnyH_ready (rs := [40]) (by kernel_rfl) (by simp) ?_
  refine AllReadyH.cons rfl (fun K hK => ?_) AllReadyH.nil
  rw [if_pos (by rfl)]
  simp only [List.getElem_toArray, List.getElem_cons_succ, List.getElem_cons_zero]
  go_wp2_with fail
  refine (spec_CoefOf cd td (by have := P16.out.2.1; omega) ss _ _ (AV.ofOwn8 (own_below8 O16_16.out hHeld))).mono ?_
  rintro e v8 ⟨rfl, hq5⟩
  have hb5 : Below _ _ v8 := hq5 ▸ alloc_below _ _
  clear hq5
  go_wp2_with fail
  refine hK.out _ _ (hHeld.trans (hb5.mono hHeld.size)) (fun hHeld => ?_)
  refine wpAnyH_take (i := 41) (v := .bool true) rfl (by kernel_rfl) (by kernel_rfl) (by kernel_rfl) (fun _ _ _ h => h) (Or.inl ⟨by rfl, ?yz41⟩) hHeld ?_
  case yz41 => intro w hSw; go_simp
  simp only [Act.put, List.getElem_toArray, List.getElem_cons_succ, List.getElem_cons_zero, List.setIfInBounds_toArray, List.set_cons_zero, List.set_cons_succ]
  refine wpAnyH_take (i := 42) (v := .bool true) rfl (by kernel_rfl) (by kernel_rfl) (by kernel_rfl) (fun _ _ _ h => h) (Or.inl ⟨by rfl, ?yz42⟩) hHeld ?_
  case yz42 => intro w hSw; go_simp
  simp only [Act.put, List.getElem_toArray, List.getElem_cons_succ, List.getElem_cons_zero, List.setIfInBounds_toArray, List.set_cons_zero, List.set_cons_succ]
  refine wpAnyH_take (i := 43) (v := .bool true) rfl (by kernel_rfl) (by kernel_rfl) (by kernel_rfl) (fun _ _ _ h => h) (Or.inl ⟨by rfl, ?yz43⟩) hHeld ?_
  case yz43 => intro w hSw; go_simp
  simp only [Act.put, List.getElem_toArray, List.getElem_cons_succ, List.getElem_cons_zero, List.setIfInBounds_toArray, List.set_cons_zero, List.set_cons_succ]
  refine wpAnyH_done (by kernel_rfl) ?_ _
  have BF := LO_16.out.trans (hHeld.mono LO_16.out.size)
  clear hHeld
  go_wp2
  go_ret
  exact ⟨rfl, BF⟩
end Go.Proofs.Ytfacenfiocdbgaa
/-
  Sums of drawn sums, plainly: they are right, name by name they are what both are, less again they are the first one, and so is what they come to.
-/
namespace Go.Proofs.Ytfacenfiocdbgaa
open Go.RowKit Go.Lib
set_option linter.unusedSimpArgs false
set_option linter.unusedVariables false

def sumT8 (f : ByteArray → Int) : List AR → Int
  | [] => 0
  | t :: r => t.n * f t.s + sumT8 f r
def sumN8 (f : ByteArray → Int) (ts : List AR) : List ByteArray → Int
  | [] => 0
  | s :: r => coefA ts s * f s + sumN8 f ts r
theorem sumN8_nil (f : ByteArray → Int) : ∀ N, sumN8 f [] N = 0
  | [] => rfl
  | s :: N => by rw [sumN8, sumN8_nil f N, coefA]; simp
theorem sumN8_off (f : ByteArray → Int) (t : AR) (r : List AR) : ∀ (N : List ByteArray), t.s ∉ N → sumN8 f (t :: r) N = sumN8 f r N
  | [], _ => rfl
  | s :: N, h => by
    have h1 : ¬ t.s = s := fun e => h (by simp [e])
    rw [sumN8, sumN8, sumN8_off f t r N (fun e => h (by simp [e])), coefA, if_neg h1]
theorem sumN8_on (f : ByteArray → Int) (t : AR) (r : List AR) (h0 : coefA r t.s = 0) : ∀ (N : List ByteArray), N.Pairwise (fun a b => a ≠ b) → t.s ∈ N → sumN8 f (t :: r) N = t.n * f t.s + sumN8 f r N
  | [], _, h => by simp at h
  | s :: N, hp, h => by
    have hp' := List.pairwise_cons.1 hp
    by_cases e : t.s = s
    · subst e
      have hn : t.s ∉ N := fun hm => hp'.1 _ hm rfl
      rw [sumN8, sumN8, sumN8_off f t r N hn, coefA, if_pos rfl, h0]
      omega
    · have hm : t.s ∈ N := by rcases List.mem_cons.1 h with h | h; exact absurd h e; exact h
      rw [sumN8, sumN8, sumN8_on f t r h0 N hp'.2 hm, coefA, if_neg e]
      omega
theorem sumT8_N (f : ByteArray → Int) (N : List ByteArray) (hp : N.Pairwise (fun a b => a ≠ b)) : ∀ (ts : List AR), Asc8 ts → (∀ t ∈ ts, t.s ∈ N) → sumT8 f ts = sumN8 f ts N
  | [], _, _ => (sumN8_nil f N).symm
  | t :: r, ha, hm => by
    have ha' := List.pairwise_cons.1 ha
    rw [sumT8, sumT8_N f N hp r ha'.2 (fun u hu => hm u (by simp [hu])), sumN8_on f t r (coefA_high8 ha'.1) N hp (hm t (by simp))]
theorem sumN8_lin (f : ByteArray → Int) (n : Int) (a b c : List AR) : ∀ (N : List ByteArray), (∀ s ∈ N, coefA c s = coefA a s + n * coefA b s) → sumN8 f c N = sumN8 f a N + n * sumN8 f b N
  | [], _ => by simp [sumN8]
  | s :: N, h => by
    rw [sumN8, sumN8, sumN8, sumN8_lin f n a b c N (fun u hu => h u (by simp [hu])), h s (by simp), Int.add_mul, Int.mul_add, Int.mul_assoc]
    omega
theorem affGo8_is (nm : ByteArray → Int) : ∀ (ts : List AR) (c : Int), IntKind.i64.wrap c = c → affGo8 nm c ts = IntKind.i64.wrap (c + sumT8 nm ts)
  | [], c, h => by rw [affGo8, sumT8, Int.add_zero, h]
  | t :: r, c, h => by
    have hw : ∀ x : Int, IntKind.i64.wrap x = (x + 9223372036854775808) % 18446744073709551616 - 9223372036854775808 := fun x => IntKind.wrap_i64 x
    rw [affGo8, affGo8_is nm r _ (by simp only [hw]; omega), sumT8]
    generalize t.n * nm t.s = p
    generalize sumT8 nm r = q
    simp only [hw]
    omega
theorem asc_ne {N : List ByteArray} (h : Asc N) : N.Pairwise (fun a b => a ≠ b) := List.Pairwise.imp (fun hab e => by subst e; rw [blt_irrefl] at hab; cases hab) h
theorem mem_coef8 : ∀ (ts : List AR), Asc8 ts → ∀ t ∈ ts, coefA ts t.s = t.n
  | [], _, t, h => by simp at h
  | u :: r, ha, t, h => by
    have ha' := List.pairwise_cons.1 ha
    rcases List.mem_cons.1 h with rfl | h
    · rw [coefA, if_pos rfl]
    · rw [coefA, if_neg (fun e => (blt_ne8 (ha'.1 t h)) e.symm), mem_coef8 r ha'.2 t h]
theorem coefA_sm8 (s : ByteArray) : ∀ (ts : List AR), (∀ t ∈ ts, -4 ≤ t.n ∧ t.n ≤ 4) → -4 ≤ coefA ts s ∧ coefA ts s ≤ 4
  | [], _ => by simp [coefA]
  | t :: ts, h => by
    rw [coefA]
    split
    · exact h t (by simp)
    · exact coefA_sm8 s ts (fun u hu => h u (by simp [hu]))
theorem okFrom8_of : ∀ (ts : List AR) (p : Option ByteArray), (∀ t ∈ ts, ∀ q, p = some q → blt q t.s = true) → Asc8 ts → Bd8 ts → Nz8 ts → (∀ t ∈ ts, nameOk t.s.data.toList = true) → okFrom8 p ts = true
  | [], _, _, _, _, _, _ => rfl
  | t :: r, p, hp, ha, hb, hn, ho => by
    have ha' := List.pairwise_cons.1 ha
    have ih := okFrom8_of r (some t.s) (fun u hu q hq => by injection hq with hq; subst hq; exact ha'.1 u hu) ha'.2 (fun u hu => hb u (by simp [hu])) (fun u hu => hn u (by simp [hu])) (fun u hu => ho u (by simp [hu]))
    have h1 : ltPrev8 p t.s = true := by
      cases p with
      | none => rfl
      | some q => exact hp t (by simp) q rfl
    have h2 : (t.n == 0) = false := beq_false_of_ne (hn t (by simp))
    rw [okFrom8, termOk8, ho t (by simp), h1, h2, (inMax8_iff t.n).2 (hb t (by simp)), ih]
    rfl
theorem affOk8_of {c : Int} {ts : List AR} (hc : -100000 ≤ c ∧ c ≤ 100000) (ha : Asc8 ts) (hb : Bd8 ts) (hn : Nz8 ts) (ho : ∀ t ∈ ts, nameOk t.s.data.toList = true) : affOk8 c ts = true := by
  rw [affOk8, (inMax8_iff c).2 hc, okFrom8_of ts none (by simp) ha hb hn ho]; rfl
theorem nm3_ok {j : Nat} {s : ByteArray} (h : nm3[j]? = some s) : nameOk s.data.toList = true := by
  have h3 : j < 3 := (List.getElem?_eq_some_iff.1 h).1
  have : j = 0 ∨ j = 1 ∨ j = 2 := by omega
  rcases this with rfl | rfl | rfl <;> (simp only [nm3, List.getElem?_cons_zero, List.getElem?_cons_succ, Option.some.injEq] at h; subst h; decide +kernel)
theorem Small8.nz {c : Int} {ts : List AR} (h : Small8 c ts) : Nz8 ts := fun t ht => (h.2.2.2 t ht).2.2.2
theorem Small8.bd {c : Int} {ts : List AR} (h : Small8 c ts) : Bd8 ts := fun t ht => by have := (h.2.2.2 t ht).2; omega
theorem Small8.b4 {c : Int} {ts : List AR} (h : Small8 c ts) : ∀ t ∈ ts, -4 ≤ t.n ∧ t.n ≤ 4 := fun t ht => by have := (h.2.2.2 t ht).2; omega
theorem Small8.nm {c : Int} {ts : List AR} (h : Small8 c ts) : ∀ t ∈ ts, ∃ j : Nat, nm3[j]? = some t.s := fun t ht => by obtain ⟨⟨j, _, h2⟩, _⟩ := h.2.2.2 t ht; exact ⟨j, h2⟩
theorem Small8.ok {c : Int} {ts : List AR} (h : Small8 c ts) : affOk8 c ts = true :=
  affOk8_of (by have := h.1; omega) h.2.1 h.bd h.nz (fun t ht => by obtain ⟨j, hj⟩ := h.nm t ht; exact nm3_ok hj)
/-- What comes of two drawn sums. -/
structure Made8 (n ca cb : Int) (ta tb : List AR) (D : Int) (L : List AR) : Prop where
  d : D = ca + n * cb
  asc : Asc8 L
  nz : Nz8 L
  b8 : ∀ t ∈ L, -8 ≤ t.n ∧ t.n ≤ 8
  nm : ∀ t ∈ L, ∃ j : Nat, nm3[j]? = some t.s
  co : ∀ s, coefA L s = coefA ta s + n * coefA tb s
  sum : ∀ f, sumT8 f L = sumT8 f ta + n * sumT8 f tb
  ok : affOk8 D L = true
  len : L.length ≤ 6
theorem made8 {n ca cb : Int} {ta tb : List AR} (hn : n = 1 ∨ n = -1) (ha : Small8 ca ta) (hb : Small8 cb tb) : Made8 n ca cb ta tb (IntKind.i64.wrap (ca + IntKind.i64.wrap (n * cb))) (sumA8 ta tb n) ∧ sumOk8 ca cb n ta tb (sumA8 ta tb n) = true := by
  obtain ⟨p1, p2⟩ := puts8_mem ta tb
  have e : sumA8 ta tb n = sums8 ta tb n (puts8 (puts8 [] ta) tb) := sumsW8_is hn ha.bd hb.bd _
  obtain ⟨k1, k2, k3, k4⟩ := sums8_good ta tb n _ p1
  have hc1 := ha.1
  have hc2 := hb.1
  have hD : IntKind.i64.wrap (ca + IntKind.i64.wrap (n * cb)) = ca + n * cb := by
    rcases hn with rfl | rfl
    · rw [wrap8 (n := 1 * cb) (by omega) (by omega), wrap8 (by omega) (by omega)]
    · rw [wrap8 (n := -1 * cb) (by omega) (by omega), wrap8 (by omega) (by omega)]
  have co : ∀ s, coefA (sumA8 ta tb n) s = coefA ta s + n * coefA tb s := fun s => by
    rw [e]
    by_cases hs : s ∈ puts8 (puts8 [] ta) tb
    · exact k4 s hs
    · have h := mt (p2 s).2 hs
      rw [coefA_off8 s ta (fun t ht e => h (.inl ⟨t, ht, e⟩)), coefA_off8 s tb (fun t ht e => h (.inr ⟨t, ht, e⟩)), coefA_off8 s _ (fun t ht e => hs (e ▸ k3 t ht))]
      simp
  have b8 : ∀ t ∈ sumA8 ta tb n, -8 ≤ t.n ∧ t.n ≤ 8 := fun t ht => by
    have h1 := mem_coef8 _ (by rw [e]; exact k1) t ht
    have h2 := coefA_sm8 t.s ta ha.b4
    have h3 := coefA_sm8 t.s tb hb.b4
    rw [co] at h1
    rcases hn with rfl | rfl <;> omega
  have nm : ∀ t ∈ sumA8 ta tb n, ∃ j : Nat, nm3[j]? = some t.s := fun t ht => by
    rw [e] at ht
    rcases (p2 t.s).1 (k3 t ht) with ⟨u, hu, h⟩ | ⟨u, hu, h⟩
    · rw [← h]; exact ha.nm u hu
    · rw [← h]; exact hb.nm u hu
  have ok : affOk8 (IntKind.i64.wrap (ca + IntKind.i64.wrap (n * cb))) (sumA8 ta tb n) = true := by
    refine affOk8_of ?_ (by rw [e]; exact k1) (fun t ht => by have := b8 t ht; omega) (by rw [e]; exact k2) (fun t ht => by obtain ⟨j, hj⟩ := nm t ht; exact nm3_ok hj)
    rw [hD]
    rcases hn with rfl | rfl <;> omega
  refine ⟨⟨hD, by rw [e]; exact k1, by rw [e]; exact k2, b8, nm, co, fun f => ?_, ok, ?_⟩, ?_⟩
  · have q := asc_ne p1
    rw [e, sumT8_N f _ q _ k1 k3, sumT8_N f _ q ta ha.2.1 (fun t ht => (p2 t.s).2 (.inl ⟨t, ht, rfl⟩)), sumT8_N f _ q tb hb.2.1 (fun t ht => (p2 t.s).2 (.inr ⟨t, ht, rfl⟩))]
    exact sumN8_lin f n ta tb _ _ k4
  · have h1 := sumA8_len ta tb n
    have h2 := ha.2.2.1
    have h3 := hb.2.2.1
    omega
  · rw [sumOk8, ha.ok, hb.ok, ok]; rfl
/-- Less the second one again it is the first one. -/
theorem back8 {ca cb D : Int} {ta tb L : List AR} (ha : Small8 ca ta) (hb : Small8 cb tb) (m : Made8 1 ca cb ta tb D L) : sumA8 L tb (-1) = ta ∧ IntKind.i64.wrap (D + IntKind.i64.wrap (-1 * cb)) = ca ∧ sumOk8 D cb (-1) L tb (sumA8 L tb (-1)) = true := by
  obtain ⟨p1, p2⟩ := puts8_mem L tb
  have bL : Bd8 L := fun t ht => by have := m.b8 t ht; omega
  have e : sumA8 L tb (-1) = sums8 L tb (-1) (puts8 (puts8 [] L) tb) := sumsW8_is (.inr rfl) bL hb.bd _
  obtain ⟨k1, k2, k3, k4⟩ := sums8_good L tb (-1) _ p1
  have hc1 := ha.1
  have hc2 := hb.1
  have hd := m.d
  have e1 : sumA8 L tb (-1) = ta := by
    rw [e]
    refine ext8 _ _ k1 ha.2.1 k2 ha.nz (fun s => ?_)
    by_cases hs : s ∈ puts8 (puts8 [] L) tb
    · rw [k4 s hs, m.co]; omega
    · have h := mt (p2 s).2 hs
      have h1 := coefA_off8 s L (fun t ht e => h (.inl ⟨t, ht, e⟩))
      have h2 := coefA_off8 s tb (fun t ht e => h (.inr ⟨t, ht, e⟩))
      rw [coefA_off8 s _ (fun t ht e => hs (e ▸ k3 t ht))]
      have h3 := m.co s
      omega
  have e2 : IntKind.i64.wrap (D + IntKind.i64.wrap (-1 * cb)) = ca := by
    rw [wrap8 (n := -1 * cb) (by omega) (by omega), wrap8 (by omega) (by omega)]; omega
  refine ⟨e1, e2, ?_⟩
  rw [sumOk8, m.ok, hb.ok, e1, e2, ha.ok]; rfl
/-- What they come to. -/
theorem at_made8 {n ca cb D : Int} {ta tb L : List AR} (hn : n = 1 ∨ n = -1) (ha : Small8 ca ta) (hb : Small8 cb tb) (m : Made8 n ca cb ta tb D L) (bs : List AR) : affAt8 D L bs = IntKind.i64.wrap (affAt8 ca ta bs + n * affAt8 cb tb bs) := by
  have hc1 := ha.1
  have hc2 := hb.1
  have hd := m.d
  have hw : ∀ x : Int, IntKind.i64.wrap x = (x + 9223372036854775808) % 18446744073709551616 - 9223372036854775808 := fun x => IntKind.wrap_i64 x
  unfold affAt8
  rw [affGo8_is _ L D (by rcases hn with rfl | rfl <;> exact wrap8 (by omega) (by omega)), affGo8_is _ ta ca (wrap8 (by omega) (by omega)), affGo8_is _ tb cb (wrap8 (by omega) (by omega)), m.sum]
  generalize sumT8 (withN bs fun _ => 0) ta = p
  generalize sumT8 (withN bs fun _ => 0) tb = q
  simp only [hw]
  rcases hn with rfl | rfl <;> omega
end Go.Proofs.Ytfacenfiocdbgaa
