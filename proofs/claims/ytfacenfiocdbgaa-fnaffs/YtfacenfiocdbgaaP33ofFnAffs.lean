/-
  Texts in one: A8DrawF, AffsLaw.
-/
import Derived.Test.YtfacenfiocdbgaaP29ofFnAffs
import Derived.Test.YtfacenfiocdbgaaP32ofFnAffs
/-
  What FnAffs draws.
-/
namespace Go.Proofs.Ytfacenfiocdbgaa
open Go.RowKit Go.Lib
set_option linter.unusedSimpArgs false
set_option linter.unusedVariables false

/-- Two small sums and binds were drawn. -/
def DrawnI8 (w : World) (e : Ending) (w' : World) : Prop := ∃ (c c' : Int) (ts ts' bs : List AR) (v v' u : Value), e = .returned (.tuple #[.agg #[.int .i64 c, v], .agg #[.int .i64 c', v'], u]) ∧ Small8 c ts ∧ Small8 c' ts' ∧ Bs8 bs ∧ w'.ownsRow w.heap.size 59 2 v ts.length (acells ts) ∧ w'.ownsRow w.heap.size 59 2 v' ts'.length (acells ts') ∧ w'.ownsRow w.heap.size 67 2 u bs.length (acells bs) ∧ Below w.heap.size w w'
set_option maxHeartbeats 4000000 in
set_option maxRecDepth 100000 in
theorem DrawAffs_is (a : Option Addr) (len cap : Nat) (w : World) (hlen : len ≤ 281474976710656) (hC : CodeIs w.heap.size w a len) : Calls Try.prog 8 #[.slice a len cap] w (DrawnI8 w) := by
  have HC := Lib.hid hC
  clear hC
  have b0 : Below w.heap.size w ((w.alloc (.cells #[.int .i64 0, .slice Option.none 0 0] 26)).alloc (.cells #[.int .i64 0, .slice Option.none 0 0] 26)) := (alloc_below w _).alloc (by simp) _
  have hs0 : ((w.alloc (.cells #[.int .i64 0, .slice Option.none 0 0] 26)).alloc (.cells #[.int .i64 0, .slice Option.none 0 0] 26)).heap.size = w.heap.size + 1 + 1 := by simp
  have R0 := Lib.hid (heap2t w (.cells #[.int .i64 0, .slice Option.none 0 0] 26) (.cells #[.int .i64 0, .slice Option.none 0 0] 26))
  have C1 := Lib.hid ((HC.out.later b0).mono (show w.heap.size ≤ w.heap.size + 1 + 1 by omega))
  have B0 := Lib.hid b0
  clear b0
  go_enter Try.func8, Try.ntmps8
  go_wp2_with fail
  refine (l1New (w.heap.size + 1 + 1) a len cap _ hlen C1.out).mono ?_
  rintro e w1 ⟨rfl, hcur, hb1⟩
  rw [hs0] at hcur hb1 ⊢
  have D1 : Hid (Dw (w.heap.size + 1 + 1) a len cap (w.heap.size + 1 + 1) w1) := ⟨hlen, Nat.le_refl _, C1.out.later hb1, hcur⟩
  have R1 := Lib.hid (heap_n8 R0.out.1 hb1 (by omega))
  have S1 := Lib.hid (heap_n8 R0.out.2 hb1 (by omega))
  have B1 := Lib.hid (B0.out.trans (hb1.mono (by omega)))
  have hz1 : w.heap.size + 1 + 1 + 1 ≤ w1.heap.size := D1.out.cur.lt
  clear hcur hb1 R0 B0 C1 HC hs0
  go_wp2_with fail
  refine (l8Draw_is (w.heap.size + 1 + 1) a len cap (w.heap.size + 1 + 1) _ D1.out).mono ?_
  rintro e w2 ⟨c, ts, v, rfl, hp2, own2, d2, wr2⟩
  obtain ⟨va, vc, rfl⟩ := ownShape own2
  have P2 := Lib.hid hp2
  have O2 := Lib.hid own2
  have D2 := Lib.hid d2
  have hz2 := wr2.size
  have ba := alloc_below w2 (.cells #[.int .i64 c, .slice va ts.length vc] 26)
  have R2 := Lib.hid (heap_b8 (heap_w8 R1.out wr2 (by omega)) ba)
  have S2 := Lib.hid (heap_b8 (heap_w8 S1.out wr2 (by omega)) ba)
  have B2 := Lib.hid ((B1.out.trans (wr2.lowto (by omega) (by omega))).trans (ba.mono (by omega)))
  have T2 := Lib.hid (heap_last w2 (.cells #[.int .i64 c, .slice va ts.length vc] 26))
  have D3 := Lib.hid (D2.out.later ba)
  have O3 := Lib.hid (own_below8 O2.out ba)
  clear hp2 own2 d2 wr2 R1 S1 B1 D1 D2 O2 ba
  go_wp2_with fail
  refine (l8Draw_is (w.heap.size + 1 + 1) a len cap (w.heap.size + 1 + 1) _ D3.out).mono ?_
  rintro e w3 ⟨c1, ts1, v1, rfl, hp3, own3, d3, wr3⟩
  obtain ⟨v1a, v1c, rfl⟩ := ownShape own3
  have P3 := Lib.hid hp3
  have O3' := Lib.hid (ownMono8 (B' := w2.heap.size + 1) (by simp) own3)
  have D3' := Lib.hid d3
  have hz3 := wr3.size
  rw [World.size_alloc] at hz3
  have hz1b := hz1
  have ba := alloc_below w3 (.cells #[.int .i64 c1, .slice v1a ts1.length v1c] 26)
  have R3 := Lib.hid (heap_b8 (heap_w8 R2.out wr3 (by omega)) ba)
  have S3 := Lib.hid (heap_b8 (heap_w8 S2.out wr3 (by omega)) ba)
  have T3 := Lib.hid (heap_b8 (heap_w8 T2.out wr3 (by omega)) ba)
  have U3 := Lib.hid (heap_last w3 (.cells #[.int .i64 c1, .slice v1a ts1.length v1c] 26))
  have B3 := Lib.hid ((B2.out.trans (wr3.lowto (by omega) B2.out.size)).trans (ba.mono (by omega)))
  have D4 := Lib.hid (D3'.out.later ba)
  have O4 := Lib.hid (own_below8 (own_w8 O3.out wr3 (by omega)) ba)
  have O5 := Lib.hid (own_below8 O3'.out ba)
  clear hp3 own3 d3 wr3 R2 S2 B2 T2 O3 D3 O3' D3' ba
  go_wp2_with fail
  obtain ⟨w4, Wd⟩ : ∃ w4, Hid (w4 = (w3.alloc (.cells #[.int .i64 c1, .slice v1a ts1.length v1c] 26)).drew) := ⟨_, rfl⟩
  have bd : Below (w3.alloc (.cells #[.int .i64 c1, .slice v1a ts1.length v1c] 26)).heap.size (w3.alloc (.cells #[.int .i64 c1, .slice v1a ts1.length v1c] 26)) w4 := by rw [Wd.out]; exact (Below.refl _ _).drew
  have hz4 : (w3.alloc (.cells #[.int .i64 c1, .slice v1a ts1.length v1c] 26)).heap.size ≤ w4.heap.size := bd.size
  rw [World.size_alloc] at hz4
  have hS : w4.heap[w2.heap.size]? = some (.cells #[.int .i64 c, .slice va ts.length vc] 26) ∧ w4.heap[w3.heap.size]? = some (.cells #[.int .i64 c1, .slice v1a ts1.length v1c] 26) := ⟨heap_b8 T3.out bd, heap_b8 U3.out bd⟩
  refine wp_region_last (fun w' => w'.heap[w2.heap.size]? = some (.cells #[.int .i64 c, .slice va ts.length vc] 26) ∧ w'.heap[w3.heap.size]? = some (.cells #[.int .i64 c1, .slice v1a ts1.length v1c] 26)) 6 (by kernel_rfl) ?_
  rw [← Wd.out]
  have R4 := Lib.hid (heap_b8 R3.out bd)
  have S4 := Lib.hid (heap_b8 S3.out bd)
  have B4 := Lib.hid (B3.out.trans (bd.mono B3.out.size))
  have D5 := Lib.hid (D4.out.later bd)
  have O6 := Lib.hid (own_below8 O4.out bd)
  have O7 := Lib.hid (own_below8 O5.out bd)
  clear bd Wd R3 S3 B3 D4 O4 O5 T3 U3
  refine wpAnyL_take (i := 0) (v := .agg #[.int .i64 c, .slice va ts.length vc]) rfl (by kernel_rfl) (by kernel_rfl) (by kernel_rfl) (by kernel_rfl) (fun _ _ _ h => h) (Or.inl ⟨by rfl, ?yia0⟩) hS ?_
  case yia0 => intro w hSw; obtain ⟨⟨j0, j1⟩, _⟩ := blk2 hSw.1; go_simp
  simp only [Act.put, List.getElem_toArray, List.getElem_cons_succ, List.getElem_cons_zero, List.setIfInBounds_toArray, List.set_cons_zero, List.set_cons_succ]
  refine wpAnyL_take (i := 1) (v := .agg #[.int .i64 c1, .slice v1a ts1.length v1c]) rfl (by kernel_rfl) (by kernel_rfl) (by kernel_rfl) (by kernel_rfl) (fun _ _ _ h => h) (Or.inl ⟨by rfl, ?yia1⟩) hS ?_
  case yia1 => intro w hSw; obtain ⟨⟨j0, j1⟩, _⟩ := blk2 hSw.2; go_simp
  simp only [Act.put, List.getElem_toArray, List.getElem_cons_succ, List.getElem_cons_zero, List.setIfInBounds_toArray, List.set_cons_zero, List.set_cons_succ]
  refine wpAnyL_take (i := 2) (v := .pointer (some ⟨w.heap.size + 1 + 1, 0, Option.none⟩)) rfl (by kernel_rfl) (by kernel_rfl) (by kernel_rfl) (by kernel_rfl) (fun _ _ _ h => h) (Or.inl ⟨by rfl, ?yia2⟩) hS ?_
  case yia2 => intro w hSw; go_simp
  simp only [Act.put, List.getElem_toArray, List.getElem_cons_succ, List.getElem_cons_zero, List.setIfInBounds_toArray, List.set_cons_zero, List.set_cons_succ]
  refine wpAnyL_ready (rs := [3]) (by kernel_rfl) (by simp) ?_
  refine AllReadyL.cons rfl (fun K hK => ?_) AllReadyL.nil
  rw [if_pos (by rfl)]
  simp only [List.getElem_toArray, List.getElem_cons_succ, List.getElem_cons_zero]
  go_wp2_with fail
  refine (l8Binds_is (w.heap.size + 1 + 1) a len cap (w.heap.size + 1 + 1) _ D5.out).mono ?_
  rintro e w5 ⟨bs, u, rfl, hbs, own5, d5, wr5⟩
  obtain ⟨ua, uc, rfl⟩ := ownShape own5
  have P5 := Lib.hid hbs
  have OB := Lib.hid own5
  have hz5 := wr5.size
  have R5 := Lib.hid (heap_w8 R4.out wr5 (by omega))
  have S5 := Lib.hid (heap_w8 S4.out wr5 (by omega))
  have O8 := Lib.hid (own_w8 O6.out wr5 (by omega))
  have O9 := Lib.hid (own_w8 O7.out wr5 (by omega))
  have B5 := Lib.hid (B4.out.trans (wr5.lowto (by omega) (by have := B4.out.size; omega)))
  have hw5 := wr5
  go_wp2_with fail
  have hS2 := And.intro (heap_w8 hS.1 hw5 (by omega)) (heap_w8 hS.2 hw5 (by omega))
  refine hK.out _ _ (fun _ => hS2) ?_
  clear hS hK
  have hS := hS2
  clear hS2
  clear hbs own5 d5 wr5 hw5 R4 S4 O6 O7 B4 D5
  refine wpAnyL_ready (rs := [4]) (by kernel_rfl) (by simp) ?_
  refine AllReadyL.cons rfl (fun K hK => ?_) AllReadyL.nil
  rw [if_pos (by rfl)]
  simp only [List.getElem_toArray, List.getElem_cons_succ, List.getElem_cons_zero]
  obtain ⟨⟨e0, e1⟩, k0, k1⟩ := blk2 R5.out
  go_wp2_with fail
  have gS := two_set w5 w.heap.size (.int .i64 c) (.slice va ts.length vc)
  have hh := two_at (u := .int .i64 c) (v := .slice va ts.length vc) R5.out
  have hS2 := And.intro (heap_g8 hS.1 gS (fun e => by injection e with e; omega)) (heap_g8 hS.2 gS (fun e => by injection e with e; omega))
  refine hK.out _ _ (fun _ => hS2) ?_
  clear hS hK
  have hS := hS2
  clear hS2
  obtain ⟨w6, W6⟩ : ∃ w6, Hid (w6 = (w5.setCell ⟨w.heap.size, 0, Option.none⟩ (.int .i64 c)).setCell ⟨w.heap.size, 1, Option.none⟩ (.slice va ts.length vc)) := ⟨_, rfl⟩
  rw [← W6.out] at gS hh hS ⊢
  have R7 := Lib.hid hh
  have S7 := Lib.hid (heap_g8 S5.out gS (fun e => by injection e with e; omega))
  have O10 := Lib.hid (own_g8 O8.out gS (fun k h1 h2 => by have := (O8.out.lt k h1).1; injection h2 with h2; omega))
  have O11 := Lib.hid (own_g8 O9.out gS (fun k h1 h2 => by have := (O9.out.lt k h1).1; injection h2 with h2; omega))
  have O12 := Lib.hid (own_g8 OB.out gS (fun k h1 h2 => by have := (OB.out.lt k h1).1; injection h2 with h2; omega))
  have B7 := Lib.hid (low_g8 B5.out gS (Nat.le_refl _) (fun k h => by injection h with h; omega))
  clear gS hh W6 e0 e1 k0 k1 R5 S5 O8 O9 OB B5
  refine wpAnyL_ready (rs := [5]) (by kernel_rfl) (by simp) ?_
  refine AllReadyL.cons rfl (fun K hK => ?_) AllReadyL.nil
  rw [if_pos (by rfl)]
  simp only [List.getElem_toArray, List.getElem_cons_succ, List.getElem_cons_zero]
  obtain ⟨⟨e0, e1⟩, k0, k1⟩ := blk2 S7.out
  go_wp2_with fail
  have gS := two_set w6 (w.heap.size + 1) (.int .i64 c1) (.slice v1a ts1.length v1c)
  have hh := two_at (u := .int .i64 c1) (v := .slice v1a ts1.length v1c) S7.out
  have hS2 := And.intro (heap_g8 hS.1 gS (fun e => by injection e with e; omega)) (heap_g8 hS.2 gS (fun e => by injection e with e; omega))
  refine hK.out _ _ (fun _ => hS2) ?_
  clear hS hK
  have hS := hS2
  clear hS2
  obtain ⟨w7, W7⟩ : ∃ w7, Hid (w7 = (w6.setCell ⟨w.heap.size + 1, 0, Option.none⟩ (.int .i64 c1)).setCell ⟨w.heap.size + 1, 1, Option.none⟩ (.slice v1a ts1.length v1c)) := ⟨_, rfl⟩
  rw [← W7.out] at gS hh hS ⊢
  obtain ⟨⟨x0, x1⟩, _⟩ := blk2 (heap_g8 R7.out gS (fun e => by injection e with e; omega))
  obtain ⟨⟨x2, x3⟩, _⟩ := blk2 hh
  have O13 := Lib.hid (own_g8 O10.out gS (fun k h1 h2 => by have := (O10.out.lt k h1).1; injection h2 with h2; omega))
  have O14 := Lib.hid (own_g8 O11.out gS (fun k h1 h2 => by have := (O11.out.lt k h1).1; injection h2 with h2; omega))
  have O15 := Lib.hid (own_g8 O12.out gS (fun k h1 h2 => by have := (O12.out.lt k h1).1; injection h2 with h2; omega))
  have B9 := Lib.hid (low_g8 B7.out gS (Nat.le_refl _) (fun k h => by injection h with h; omega))
  clear gS hh W7 e0 e1 k0 k1 R7 S7 O10 O11 O12 B7
  refine wpAnyL_ready (rs := [6]) (by kernel_rfl) (by simp) ?_
  refine AllReadyL.cons rfl (fun K hK => ?_) AllReadyL.nil
  rw [if_pos (by rfl)]
  simp only [List.getElem_toArray, List.getElem_cons_succ, List.getElem_cons_zero]
  go_wp2_with fail
  refine hK.out _ _ (fun e => absurd rfl e) ?_
  clear hK hS
  refine wpAnyL_done (by kernel_rfl) ?_ _
  go_wp2
  refine bodyPost_ret (v := .tuple #[.agg #[.int .i64 c, .slice va ts.length vc], .agg #[.int .i64 c1, .slice v1a ts1.length v1c], .slice ua bs.length uc]) (by simp [results, Try.results8, go_sem, x0, x1, x2, x3]) rfl ⟨c, c1, ts, ts1, bs, _, _, _, rfl, P2.out, P3.out, P5.out, ownMono8 (by omega) O13.out, ownMono8 (by omega) O14.out, ownMono8 (by omega) O15.out, B9.out⟩
end Go.Proofs.Ytfacenfiocdbgaa
/-
  The walk of laws.FnAffs.
-/
namespace Go.Proofs.Ytfacenfiocdbgaa
open Go.RowKit Go.Lib
set_option linter.unusedSimpArgs false
set_option linter.unusedVariables false

theorem Small8.any8 {c : Int} {ts : List AR} (h : Small8 c ts) : Any8 c ts := h.any (by have := h.1; omega)
theorem Made8.nm3b {n ca cb D : Int} {ta tb L : List AR} (m : Made8 n ca cb ta tb D L) : ∀ t ∈ L, t.s.size ≤ 3 := fun t ht => by obtain ⟨j, hj⟩ := m.nm t ht; exact nm3_size hj
theorem Made8.size {n ca cb D : Int} {ta tb L : List AR} (m : Made8 n ca cb ta tb D L) : asize L ≤ 24 := by
  have h1 := any_bytes L m.nm3b
  have h2 := m.len
  unfold asize; omega
set_option maxHeartbeats 4000000 in
set_option maxRecDepth 100000 in
theorem affs_walk (a : Option Addr) (len cap : Nat) (w : World) (hC : CodeIs w.heap.size w a len) :
    Calls Try.prog 3 #[.slice a len cap] w fun e w' => e = .returned (.bool true) ∧ Below w.heap.size w w' := by
  have HC := Lib.hid hC
  clear hC
  go_enter Try.func3, Try.ntmps3
  go_wp2_with fail
  refine (big_is a len cap _).mono ?_
  rintro e w0 ⟨rfl, rfl⟩
  by_cases hbig : (1048576 : Int) < (len : Int)
  · have hb1 : decide ((1048576 : Int) < (len : Int)) = true := decide_eq_true hbig
    rw [hb1]
    go_wp2
    go_ret
    exact ⟨rfl, Below.refl _ _⟩
  have hb1 : decide ((1048576 : Int) < (len : Int)) = false := decide_eq_false hbig
  rw [hb1]
  have hlen : len ≤ 281474976710656 := by omega
  clear hb1 hbig
  have LO := Lib.hid (Below.refl w.heap.size w)
  go_wp2_with fail
  refine (DrawAffs_is a len cap _ hlen HC.out).mono ?_
  rintro e w1 ⟨c0, c1, ts0, ts1, bs, v0, v1, vb, rfl, p0, p1, pb, own0, own1, ownb, hb⟩
  obtain ⟨a0, k0, rfl⟩ := ownShape own0
  obtain ⟨a1, k1, rfl⟩ := ownShape own1
  obtain ⟨ab, kb, rfl⟩ := ownShape ownb
  have LO_1 := Lib.hid (LO.out.trans (hb.mono LO.out.size))
  clear LO 
  have O0 := Lib.hid own0
  have O1 := Lib.hid own1
  have Ob := Lib.hid ownb
  have P0 := Lib.hid p0
  have P1 := Lib.hid p1
  have PB := Lib.hid pb
  clear hb own0 own1 ownb p0 p1 pb
  have ba := alloc2_below w1 (.cells #[.int .i64 c0, .slice a0 ts0.length k0] 26) (.cells #[.int .i64 c1, .slice a1 ts1.length k1] 26)
  obtain ⟨h0, h1⟩ := heap2t w1 (.cells #[.int .i64 c0, .slice a0 ts0.length k0] 26) (.cells #[.int .i64 c1, .slice a1 ts1.length k1] 26)
  obtain ⟨⟨y0, y1⟩, _⟩ := blk2 h0
  obtain ⟨⟨y2, y3⟩, _⟩ := blk2 h1
  obtain ⟨W1, hW1⟩ : ∃ W, Hid (W = (w1.alloc (.cells #[.int .i64 c0, .slice a0 ts0.length k0] 26)).alloc (.cells #[.int .i64 c1, .slice a1 ts1.length k1] 26)) := ⟨_, rfl⟩
  rw [← hW1.out] at ba h0 h1
  go_wp2_with fail
  rw [← hW1.out]
  have LO_2 := Lib.hid (LO_1.out.trans (ba.mono LO_1.out.size))
  have O0_2 := Lib.hid (own_below8 O0.out ba)
  have O1_2 := Lib.hid (own_below8 O1.out ba)
  have Ob_2 := Lib.hid (own_below8 Ob.out ba)
  clear LO_1 O0 O1 Ob y0 y1 y2 y3
  have B0 := Lib.hid h0
  have B1 := Lib.hid h1
  clear ba h0 h1 hW1
  obtain ⟨mA, sA⟩ := made8 (.inl rfl) P0.out P1.out
  obtain ⟨mS, sS⟩ := made8 (.inr rfl) P0.out P1.out
  have hin : asize ts0 + asize ts1 ≤ 1048576 := by have h1 := P0.out.any8.size; have h2 := P1.out.any8.size; omega
  have hA := (add_both8 c0 c1 ts0 ts1 P1.out.any8.1 P1.out.any8.e _ _ _ sA rfl rfl hin).2.2
  have hS := (sub_both8 c0 c1 ts0 ts1 P1.out.any8.1 P1.out.any8.e _ _ _ sS rfl rfl hin).2.2
  rw [if_pos rfl, if_pos rfl] at hA hS
  clear sA sS
  obtain ⟨dA, hdA⟩ : ∃ d, IntKind.i64.wrap (c0 + IntKind.i64.wrap (1 * c1)) = d := ⟨_, rfl⟩
  obtain ⟨LA, hLA⟩ : ∃ L, sumA8 ts0 ts1 1 = L := ⟨_, rfl⟩
  obtain ⟨dS, hdS⟩ : ∃ d, IntKind.i64.wrap (c0 + IntKind.i64.wrap (-1 * c1)) = d := ⟨_, rfl⟩
  obtain ⟨LS, hLS⟩ : ∃ L, sumA8 ts0 ts1 (-1) = L := ⟨_, rfl⟩
  rw [hdA, hLA] at hA mA
  rw [hdS, hLS] at hS mS
  have hin2 : asize LA + asize ts1 ≤ 1048576 := by have h1 := mA.size; have h2 := P1.out.any8.size; omega
  obtain ⟨z1, z2, z3⟩ := back8 P0.out P1.out mA
  have hZ := (sub_both8 dA c1 LA ts1 P1.out.any8.1 P1.out.any8.e _ _ _ z3 rfl rfl hin2).2.2
  rw [if_pos rfl, if_pos rfl, z1, z2] at hZ
  have HA := Lib.hid hA
  have HS := Lib.hid hS
  have HZ := Lib.hid hZ
  have MA := Lib.hid mA
  have MS := Lib.hid mS
  clear hA hS hZ mA mS z1 z2 z3 hin hin2 hdA hLA hdS hLS
  refine (HA.out _ _ _ (AV.ofOwn8 O0_2.out) (AV.ofOwn8 O1_2.out) (capOwn8 O0_2.out) (capOwn8 O1_2.out)).mono ?_
  rintro e w2 ⟨u6, rfl, own5, hb⟩
  obtain ⟨x6, z6, rfl⟩ := ownShape own5
  have LO_3 := Lib.hid (LO_2.out.trans (hb.mono LO_2.out.size))
  have O0_3 := Lib.hid (own_below8 O0_2.out hb)
  have O1_3 := Lib.hid (own_below8 O1_2.out hb)
  have Ob_3 := Lib.hid (own_below8 Ob_2.out hb)
  have B0_3 := Lib.hid (heap_b8 B0.out hb)
  have B1_3 := Lib.hid (heap_b8 B1.out hb)
  clear LO_2 O0_2 O1_2 Ob_2 B0 B1 
  have O6 := Lib.hid own5
  clear hb own5
  have ba := alloc_below w2 (.cells #[.int .i64 dA, .slice x6 LA.length z6] 26)
  have hh := heap_last w2 (.cells #[.int .i64 dA, .slice x6 LA.length z6] 26)
  obtain ⟨W2, hW2⟩ : ∃ W, Hid (W = w2.alloc (.cells #[.int .i64 dA, .slice x6 LA.length z6] 26)) := ⟨_, rfl⟩
  obtain ⟨⟨y0, y1⟩, _⟩ := blk2 (heap_b8 B0_3.out ba)
  obtain ⟨⟨y2, y3⟩, _⟩ := blk2 (heap_b8 B1_3.out ba)
  rw [← hW2.out] at ba hh
  go_wp2_with fail
  rw [← hW2.out]
  have LO_4 := Lib.hid (LO_3.out.trans (ba.mono LO_3.out.size))
  have O0_4 := Lib.hid (own_below8 O0_3.out ba)
  have O1_4 := Lib.hid (own_below8 O1_3.out ba)
  have Ob_4 := Lib.hid (own_below8 Ob_3.out ba)
  have B0_4 := Lib.hid (heap_b8 B0_3.out ba)
  have B1_4 := Lib.hid (heap_b8 B1_3.out ba)
  have O6_4 := Lib.hid (own_below8 O6.out ba)
  clear LO_3 O0_3 O1_3 Ob_3 B0_3 B1_3 O6 y0 y1 y2 y3
  have B6 := Lib.hid hh
  clear ba hh hW2
  refine (HS.out _ _ _ (AV.ofOwn8 O0_4.out) (AV.ofOwn8 O1_4.out) (capOwn8 O0_4.out) (capOwn8 O1_4.out)).mono ?_
  rintro e w3 ⟨u8, rfl, own5, hb⟩
  obtain ⟨x8, z8, rfl⟩ := ownShape own5
  have LO_5 := Lib.hid (LO_4.out.trans (hb.mono LO_4.out.size))
  have O0_5 := Lib.hid (own_below8 O0_4.out hb)
  have O1_5 := Lib.hid (own_below8 O1_4.out hb)
  have Ob_5 := Lib.hid (own_below8 Ob_4.out hb)
  have B0_5 := Lib.hid (heap_b8 B0_4.out hb)
  have B1_5 := Lib.hid (heap_b8 B1_4.out hb)
  have O6_5 := Lib.hid (own_below8 O6_4.out hb)
  have B6_5 := Lib.hid (heap_b8 B6.out hb)
  clear LO_4 O0_4 O1_4 Ob_4 B0_4 B1_4 O6_4 B6 
  have O8 := Lib.hid own5
  clear hb own5
  have ba := alloc_below w3 (.cells #[.int .i64 dS, .slice x8 LS.length z8] 26)
  have hh := heap_last w3 (.cells #[.int .i64 dS, .slice x8 LS.length z8] 26)
  obtain ⟨W3, hW3⟩ : ∃ W, Hid (W = w3.alloc (.cells #[.int .i64 dS, .slice x8 LS.length z8] 26)) := ⟨_, rfl⟩
  obtain ⟨⟨y0, y1⟩, _⟩ := blk2 (heap_b8 B6_5.out ba)
  obtain ⟨⟨y2, y3⟩, _⟩ := blk2 (heap_b8 B1_5.out ba)
  rw [← hW3.out] at ba hh
  go_wp2_with fail
  rw [← hW3.out]
  have LO_6 := Lib.hid (LO_5.out.trans (ba.mono LO_5.out.size))
  have O0_6 := Lib.hid (own_below8 O0_5.out ba)
  have O1_6 := Lib.hid (own_below8 O1_5.out ba)
  have Ob_6 := Lib.hid (own_below8 Ob_5.out ba)
  have B0_6 := Lib.hid (heap_b8 B0_5.out ba)
  have B1_6 := Lib.hid (heap_b8 B1_5.out ba)
  have O6_6 := Lib.hid (own_below8 O6_5.out ba)
  have B6_6 := Lib.hid (heap_b8 B6_5.out ba)
  have O8_6 := Lib.hid (own_below8 O8.out ba)
  clear LO_5 O0_5 O1_5 Ob_5 B0_5 B1_5 O6_5 B6_5 O8 y0 y1 y2 y3
  have B8 := Lib.hid hh
  clear ba hh hW3
  refine (HZ.out _ _ _ (AV.ofOwn8 O6_6.out) (AV.ofOwn8 O1_6.out) (capOwn8 O6_6.out) (capOwn8 O1_6.out)).mono ?_
  rintro e w4 ⟨u10, rfl, own5, hb⟩
  obtain ⟨x10, z10, rfl⟩ := ownShape own5
  have LO_7 := Lib.hid (LO_6.out.trans (hb.mono LO_6.out.size))
  have O0_7 := Lib.hid (own_below8 O0_6.out hb)
  have O1_7 := Lib.hid (own_below8 O1_6.out hb)
  have Ob_7 := Lib.hid (own_below8 Ob_6.out hb)
  have B0_7 := Lib.hid (heap_b8 B0_6.out hb)
  have B1_7 := Lib.hid (heap_b8 B1_6.out hb)
  have O6_7 := Lib.hid (own_below8 O6_6.out hb)
  have B6_7 := Lib.hid (heap_b8 B6_6.out hb)
  have O8_7 := Lib.hid (own_below8 O8_6.out hb)
  have B8_7 := Lib.hid (heap_b8 B8.out hb)
  clear LO_6 O0_6 O1_6 Ob_6 B0_6 B1_6 O6_6 B6_6 O8_6 B8 
  have O10 := Lib.hid own5
  clear hb own5
  have ba := alloc_below w4 (.cells #[.int .i64 c0, .slice x10 ts0.length z10] 26)
  have hh := heap_last w4 (.cells #[.int .i64 c0, .slice x10 ts0.length z10] 26)
  obtain ⟨W4, hW4⟩ : ∃ W, Hid (W = w4.alloc (.cells #[.int .i64 c0, .slice x10 ts0.length z10] 26)) := ⟨_, rfl⟩
  obtain ⟨⟨y0, y1⟩, _⟩ := blk2 hh
  obtain ⟨⟨y2, y3⟩, _⟩ := blk2 (heap_b8 B0_7.out ba)
  rw [← hW4.out] at ba hh
  go_wp2_with fail
  rw [← hW4.out]
  have LO_8 := Lib.hid (LO_7.out.trans (ba.mono LO_7.out.size))
  have O0_8 := Lib.hid (own_below8 O0_7.out ba)
  have O1_8 := Lib.hid (own_below8 O1_7.out ba)
  have Ob_8 := Lib.hid (own_below8 Ob_7.out ba)
  have B0_8 := Lib.hid (heap_b8 B0_7.out ba)
  have B1_8 := Lib.hid (heap_b8 B1_7.out ba)
  have O6_8 := Lib.hid (own_below8 O6_7.out ba)
  have B6_8 := Lib.hid (heap_b8 B6_7.out ba)
  have O8_8 := Lib.hid (own_below8 O8_7.out ba)
  have B8_8 := Lib.hid (heap_b8 B8_7.out ba)
  have O10_8 := Lib.hid (own_below8 O10.out ba)
  clear LO_7 O0_7 O1_7 Ob_7 B0_7 B1_7 O6_7 B6_7 O8_7 B8_7 O10 y0 y1 y2 y3
  have B10 := Lib.hid hh
  clear ba hh hW4
  refine (sameAff_is c0 ts0 (by have := P0.out.2.2.1; omega) _ _ _ (AV.ofOwn8 O10_8.out) (AV.ofOwn8 O0_8.out)).mono ?_
  rintro e w5 ⟨rfl, hb⟩
  have LO_9 := Lib.hid (LO_8.out.trans (hb.mono LO_8.out.size))
  have O0_9 := Lib.hid (own_below8 O0_8.out hb)
  have O1_9 := Lib.hid (own_below8 O1_8.out hb)
  have Ob_9 := Lib.hid (own_below8 Ob_8.out hb)
  have B0_9 := Lib.hid (heap_b8 B0_8.out hb)
  have B1_9 := Lib.hid (heap_b8 B1_8.out hb)
  have O6_9 := Lib.hid (own_below8 O6_8.out hb)
  have B6_9 := Lib.hid (heap_b8 B6_8.out hb)
  have O8_9 := Lib.hid (own_below8 O8_8.out hb)
  have B8_9 := Lib.hid (heap_b8 B8_8.out hb)
  have O10_9 := Lib.hid (own_below8 O10_8.out hb)
  have B10_9 := Lib.hid (heap_b8 B10.out hb)
  clear LO_8 O0_8 O1_8 Ob_8 B0_8 B1_8 O6_8 B6_8 O8_8 B8_8 O10_8 B10 hb
  obtain ⟨⟨y0, y1⟩, _⟩ := blk2 B6_9.out
  go_wp2_with fail
  refine (impl_AffOk dA LA (by have := MA.out.len; omega) _ _ (AV.ofOwn8 O6_9.out) true MA.out.ok).mono ?_
  rintro e w6 ⟨rfl, hb⟩
  have LO_10 := Lib.hid (LO_9.out.trans (hb.mono LO_9.out.size))
  have O0_10 := Lib.hid (own_below8 O0_9.out hb)
  have O1_10 := Lib.hid (own_below8 O1_9.out hb)
  have Ob_10 := Lib.hid (own_below8 Ob_9.out hb)
  have B0_10 := Lib.hid (heap_b8 B0_9.out hb)
  have B1_10 := Lib.hid (heap_b8 B1_9.out hb)
  have O6_10 := Lib.hid (own_below8 O6_9.out hb)
  have B6_10 := Lib.hid (heap_b8 B6_9.out hb)
  have O8_10 := Lib.hid (own_below8 O8_9.out hb)
  have B8_10 := Lib.hid (heap_b8 B8_9.out hb)
  have O10_10 := Lib.hid (own_below8 O10_9.out hb)
  have B10_10 := Lib.hid (heap_b8 B10_9.out hb)
  clear LO_9 O0_9 O1_9 Ob_9 B0_9 B1_9 O6_9 B6_9 O8_9 B8_9 O10_9 B10_9 hb y0 y1
  obtain ⟨⟨y0, y1⟩, _⟩ := blk2 B8_10.out
  go_wp2_with fail
  refine (impl_AffOk dS LS (by have := MS.out.len; omega) _ _ (AV.ofOwn8 O8_10.out) true MS.out.ok).mono ?_
  rintro e w7 ⟨rfl, hb⟩
  have LO_11 := Lib.hid (LO_10.out.trans (hb.mono LO_10.out.size))
  have O0_11 := Lib.hid (own_below8 O0_10.out hb)
  have O1_11 := Lib.hid (own_below8 O1_10.out hb)
  have Ob_11 := Lib.hid (own_below8 Ob_10.out hb)
  have B0_11 := Lib.hid (heap_b8 B0_10.out hb)
  have B1_11 := Lib.hid (heap_b8 B1_10.out hb)
  have O6_11 := Lib.hid (own_below8 O6_10.out hb)
  have B6_11 := Lib.hid (heap_b8 B6_10.out hb)
  have O8_11 := Lib.hid (own_below8 O8_10.out hb)
  have B8_11 := Lib.hid (heap_b8 B8_10.out hb)
  have O10_11 := Lib.hid (own_below8 O10_10.out hb)
  have B10_11 := Lib.hid (heap_b8 B10_10.out hb)
  clear LO_10 O0_10 O1_10 Ob_10 B0_10 B1_10 O6_10 B6_10 O8_10 B8_10 O10_10 B10_10 hb y0 y1
  have ba := alloc_below w7 (.cells #[.string ⟨#[105]⟩, .string ⟨#[106]⟩, .string ⟨#[107]⟩] 9)
  have hh := heap_last w7 (.cells #[.string ⟨#[105]⟩, .string ⟨#[106]⟩, .string ⟨#[107]⟩] 9)
  obtain ⟨W7, hW7⟩ : ∃ W, Hid (W = w7.alloc (.cells #[.string ⟨#[105]⟩, .string ⟨#[106]⟩, .string ⟨#[107]⟩] 9)) := ⟨_, rfl⟩
  rw [← hW7.out] at ba hh
  go_wp2
  rw [← hW7.out]
  have LO_12 := Lib.hid (LO_11.out.trans (ba.mono LO_11.out.size))
  have O0_12 := Lib.hid (own_below8 O0_11.out ba)
  have O1_12 := Lib.hid (own_below8 O1_11.out ba)
  have Ob_12 := Lib.hid (own_below8 Ob_11.out ba)
  have B0_12 := Lib.hid (heap_b8 B0_11.out ba)
  have B1_12 := Lib.hid (heap_b8 B1_11.out ba)
  have O6_12 := Lib.hid (own_below8 O6_11.out ba)
  have B6_12 := Lib.hid (heap_b8 B6_11.out ba)
  have O8_12 := Lib.hid (own_below8 O8_11.out ba)
  have B8_12 := Lib.hid (heap_b8 B8_11.out ba)
  have O10_12 := Lib.hid (own_below8 O10_11.out ba)
  have B10_12 := Lib.hid (heap_b8 B10_11.out ba)
  clear LO_11 O0_11 O1_11 Ob_11 B0_11 B1_11 O6_11 B6_11 O8_11 B8_11 O10_11 B10_11 
  have BN := Lib.hid hh
  clear ba hh hW7
  go_loopw [13] (fun i wr => ∃ k : Nat, k ≤ 3 ∧ i = .int .i64 (k : Int) ∧ Below W7.heap.size W7 wr) (fun i _ => 3 - (RowKit.intOf i).toNat)
  case atStart => exact ⟨0, by omega, rfl, Below.refl _ _⟩
  case round =>
    obtain ⟨k, hk, rfl, hbr⟩ := hrel
    have HBR := Lib.hid hbr
    have LO_13 := Lib.hid (LO_12.out.trans (hbr.mono LO_12.out.size))
    have O0_13 := Lib.hid (own_below8 O0_12.out hbr)
    have O1_13 := Lib.hid (own_below8 O1_12.out hbr)
    have Ob_13 := Lib.hid (own_below8 Ob_12.out hbr)
    have B0_13 := Lib.hid (heap_b8 B0_12.out hbr)
    have B1_13 := Lib.hid (heap_b8 B1_12.out hbr)
    have O6_13 := Lib.hid (own_below8 O6_12.out hbr)
    have B6_13 := Lib.hid (heap_b8 B6_12.out hbr)
    have O8_13 := Lib.hid (own_below8 O8_12.out hbr)
    have B8_13 := Lib.hid (heap_b8 B8_12.out hbr)
    have O10_13 := Lib.hid (own_below8 O10_12.out hbr)
    have B10_13 := Lib.hid (heap_b8 B10_12.out hbr)
    have BN_13 := Lib.hid (heap_b8 BN.out hbr)
    clear LO_12 O0_12 O1_12 Ob_12 B0_12 B1_12 O6_12 B6_12 O8_12 B8_12 O10_12 B10_12 BN hbr
    by_cases hlt : k < 3
    ·
      have hltI : (k : Int) < 3 := by omega
      obtain ⟨s, hs⟩ : ∃ s, nm3[k]? = some s := ⟨nm3[k]'(by simpa [nm3] using hlt), List.getElem?_eq_getElem _⟩
      have NC : Hid (∀ wx : World, wx.heap[w7.heap.size]? = some (.cells #[.string ⟨#[105]⟩, .string ⟨#[106]⟩, .string ⟨#[107]⟩] 9) → wx.cell? ⟨w7.heap.size, k, Option.none⟩ = some (.string s)) := show ∀ wx : World, _ → _ from by
        intro wx hx
        have : k = 0 ∨ k = 1 ∨ k = 2 := by omega
        rcases this with rfl | rfl | rfl <;> (simp only [nm3, List.getElem?_cons_zero, List.getElem?_cons_succ, Option.some.injEq] at hs; subst hs; simp [World.cell?, hx])
      have hco : wrap64 (coefA ts0 s + coefA ts1 s) = coefA LA s := by
        have h1 := MA.out.co s
        have h2 := coefA_sm8 s ts0 P0.out.b4
        have h3 := coefA_sm8 s ts1 P1.out.b4
        rw [← IntWalk.i64_left, wrap8 (by omega) (by omega), h1]; omega
      clear hs
      go_wp2_with fail
      have bd : Below wr.heap.size wr wr.drew := (Below.refl _ wr).drew
      refine wp_region_held_drew (S := Below wr.heap.size wr) (by kernel_rfl) bd (fun hHeld => ?_)
      clear bd
      refine wpAnyH_take (i := 0) (v := .agg #[.int .i64 dA, .slice x6 LA.length z6]) rfl (by kernel_rfl) (by kernel_rfl) (by kernel_rfl) (fun _ _ _ h => h) (Or.inl ⟨by rfl, ?yy0⟩) hHeld ?_
      case yy0 => intro w hSw; obtain ⟨⟨j0, j1⟩, _⟩ := blk2 ((hSw.block _ (lt_of_heap B6_13.out)).trans B6_13.out); go_simp
      simp only [Act.put, List.getElem_toArray, List.getElem_cons_succ, List.getElem_cons_zero, List.setIfInBounds_toArray, List.set_cons_zero, List.set_cons_succ]
      refine wpAnyH_take (i := 1) (v := .slice (some ⟨w7.heap.size, 0, Option.none⟩) 3 3) rfl (by kernel_rfl) (by kernel_rfl) (by kernel_rfl) (fun _ _ _ h => h) (Or.inl ⟨by rfl, ?yy1⟩) hHeld ?_
      case yy1 => intro w hSw; go_simp
      simp only [Act.put, List.getElem_toArray, List.getElem_cons_succ, List.getElem_cons_zero, List.setIfInBounds_toArray, List.set_cons_zero, List.set_cons_succ]
      refine wpAnyH_take (i := 2) (v := .int .i64 (k : Int)) rfl (by kernel_rfl) (by kernel_rfl) (by kernel_rfl) (fun _ _ _ h => h) (Or.inl ⟨by rfl, ?yy2⟩) hHeld ?_
      case yy2 => intro w hSw; go_simp
      simp only [Act.put, List.getElem_toArray, List.getElem_cons_succ, List.getElem_cons_zero, List.setIfInBounds_toArray, List.set_cons_zero, List.set_cons_succ]
      refine wpAnyH_take (i := 3) (v := .pointer (some ⟨w7.heap.size, k, Option.none⟩)) rfl (by kernel_rfl) (by kernel_rfl) (by kernel_rfl) (fun _ _ _ h => h) (Or.inl ⟨by rfl, ?yy3⟩) hHeld ?_
      case yy3 => intro w hSw; go_simp
      simp only [Act.put, List.getElem_toArray, List.getElem_cons_succ, List.getElem_cons_zero, List.setIfInBounds_toArray, List.set_cons_zero, List.set_cons_succ]
      refine wpAnyH_take (i := 4) (v := .string s) rfl (by kernel_rfl) (by kernel_rfl) (by kernel_rfl) (fun _ _ _ h => h) (Or.inl ⟨by rfl, ?yy4⟩) hHeld ?_
      case yy4 => intro w hSw; have q := NC.out _ ((hSw.block _ (lt_of_heap BN_13.out)).trans BN_13.out); go_simp
      simp only [Act.put, List.getElem_toArray, List.getElem_cons_succ, List.getElem_cons_zero, List.setIfInBounds_toArray, List.set_cons_zero, List.set_cons_succ]
      refine wpAnyH_take (i := 6) (v := .agg #[.int .i64 c0, .slice a0 ts0.length k0]) rfl (by kernel_rfl) (by kernel_rfl) (by kernel_rfl) (fun _ _ _ h => h) (Or.inl ⟨by rfl, ?yy6⟩) hHeld ?_
      case yy6 => intro w hSw; obtain ⟨⟨j0, j1⟩, _⟩ := blk2 ((hSw.block _ (lt_of_heap B0_13.out)).trans B0_13.out); go_simp
      simp only [Act.put, List.getElem_toArray, List.getElem_cons_succ, List.getElem_cons_zero, List.setIfInBounds_toArray, List.set_cons_zero, List.set_cons_succ]
      refine wpAnyH_take (i := 7) (v := .slice (some ⟨w7.heap.size, 0, Option.none⟩) 3 3) rfl (by kernel_rfl) (by kernel_rfl) (by kernel_rfl) (fun _ _ _ h => h) (Or.inl ⟨by rfl, ?yy7⟩) hHeld ?_
      case yy7 => intro w hSw; go_simp
      simp only [Act.put, List.getElem_toArray, List.getElem_cons_succ, List.getElem_cons_zero, List.setIfInBounds_toArray, List.set_cons_zero, List.set_cons_succ]
      refine wpAnyH_take (i := 8) (v := .int .i64 (k : Int)) rfl (by kernel_rfl) (by kernel_rfl) (by kernel_rfl) (fun _ _ _ h => h) (Or.inl ⟨by rfl, ?yy8⟩) hHeld ?_
      case yy8 => intro w hSw; go_simp
      simp only [Act.put, List.getElem_toArray, List.getElem_cons_succ, List.getElem_cons_zero, List.setIfInBounds_toArray, List.set_cons_zero, List.set_cons_succ]
      refine wpAnyH_take (i := 9) (v := .pointer (some ⟨w7.heap.size, k, Option.none⟩)) rfl (by kernel_rfl) (by kernel_rfl) (by kernel_rfl) (fun _ _ _ h => h) (Or.inl ⟨by rfl, ?yy9⟩) hHeld ?_
      case yy9 => intro w hSw; go_simp
      simp only [Act.put, List.getElem_toArray, List.getElem_cons_succ, List.getElem_cons_zero, List.setIfInBounds_toArray, List.set_cons_zero, List.set_cons_succ]
      refine wpAnyH_take (i := 10) (v := .string s) rfl (by kernel_rfl) (by kernel_rfl) (by kernel_rfl) (fun _ _ _ h => h) (Or.inl ⟨by rfl, ?yy10⟩) hHeld ?_
      case yy10 => intro w hSw; have q := NC.out _ ((hSw.block _ (lt_of_heap BN_13.out)).trans BN_13.out); go_simp
      simp only [Act.put, List.getElem_toArray, List.getElem_cons_succ, List.getElem_cons_zero, List.setIfInBounds_toArray, List.set_cons_zero, List.set_cons_succ]
      refine wpAnyH_take (i := 12) (v := .agg #[.int .i64 c1, .slice a1 ts1.length k1]) rfl (by kernel_rfl) (by kernel_rfl) (by kernel_rfl) (fun _ _ _ h => h) (Or.inl ⟨by rfl, ?yy12⟩) hHeld ?_
      case yy12 => intro w hSw; obtain ⟨⟨j0, j1⟩, _⟩ := blk2 ((hSw.block _ (lt_of_heap B1_13.out)).trans B1_13.out); go_simp
      simp only [Act.put, List.getElem_toArray, List.getElem_cons_succ, List.getElem_cons_zero, List.setIfInBounds_toArray, List.set_cons_zero, List.set_cons_succ]
      refine wpAnyH_take (i := 13) (v := .slice (some ⟨w7.heap.size, 0, Option.none⟩) 3 3) rfl (by kernel_rfl) (by kernel_rfl) (by kernel_rfl) (fun _ _ _ h => h) (Or.inl ⟨by rfl, ?yy13⟩) hHeld ?_
      case yy13 => intro w hSw; go_simp
      simp only [Act.put, List.getElem_toArray, List.getElem_cons_succ, List.getElem_cons_zero, List.setIfInBounds_toArray, List.set_cons_zero, List.set_cons_succ]
      refine wpAnyH_take (i := 14) (v := .int .i64 (k : Int)) rfl (by kernel_rfl) (by kernel_rfl) (by kernel_rfl) (fun _ _ _ h => h) (Or.inl ⟨by rfl, ?yy14⟩) hHeld ?_
      case yy14 => intro w hSw; go_simp
      simp only [Act.put, List.getElem_toArray, List.getElem_cons_succ, List.getElem_cons_zero, List.setIfInBounds_toArray, List.set_cons_zero, List.set_cons_succ]
      refine wpAnyH_take (i := 15) (v := .pointer (some ⟨w7.heap.size, k, Option.none⟩)) rfl (by kernel_rfl) (by kernel_rfl) (by kernel_rfl) (fun _ _ _ h => h) (Or.inl ⟨by rfl, ?yy15⟩) hHeld ?_
      case yy15 => intro w hSw; go_simp
      simp only [Act.put, List.getElem_toArray, List.getElem_cons_succ, List.getElem_cons_zero, List.setIfInBounds_toArray, List.set_cons_zero, List.set_cons_succ]
      refine wpAnyH_take (i := 16) (v := .string s) rfl (by kernel_rfl) (by kernel_rfl) (by kernel_rfl) (fun _ _ _ h => h) (Or.inl ⟨by rfl, ?yy16⟩) hHeld ?_
      case yy16 => intro w hSw; have q := NC.out _ ((hSw.block _ (lt_of_heap BN_13.out)).trans BN_13.out); go_simp
      simp only [Act.put, List.getElem_toArray, List.getElem_cons_succ, List.getElem_cons_zero, List.setIfInBounds_toArray, List.set_cons_zero, List.set_cons_succ]
      refine wpAnyH_ready (rs := [5]) (by kernel_rfl) (by simp) ?_
      refine AllReadyH.cons rfl (fun K hK => ?_) AllReadyH.nil
      rw [if_pos (by rfl)]
      simp only [List.getElem_toArray, List.getElem_cons_succ, List.getElem_cons_zero]
      go_wp2_with fail
      refine (impl_CoefOf dA LA (by have := MA.out.len; omega) s _ _ (AV.ofOwn8 (own_below8 O6_13.out hHeld))).mono ?_
      rintro e e1 ⟨rfl, hb5⟩
      go_wp2_with fail
      refine hK.out _ _ (hHeld.trans (hb5.mono hHeld.size)) (fun hHeld => ?_)
      refine wpAnyH_ready (rs := [11]) (by kernel_rfl) (by simp) ?_
      refine AllReadyH.cons rfl (fun K hK => ?_) AllReadyH.nil
      rw [if_pos (by rfl)]
      simp only [List.getElem_toArray, List.getElem_cons_succ, List.getElem_cons_zero]
      go_wp2_with fail
      refine (impl_CoefOf c0 ts0 (by have := P0.out.2.2.1; omega) s _ _ (AV.ofOwn8 (own_below8 O0_13.out hHeld))).mono ?_
      rintro e e2 ⟨rfl, hb5⟩
      go_wp2_with fail
      refine hK.out _ _ (hHeld.trans (hb5.mono hHeld.size)) (fun hHeld => ?_)
      refine wpAnyH_ready (rs := [17]) (by kernel_rfl) (by simp) ?_
      refine AllReadyH.cons rfl (fun K hK => ?_) AllReadyH.nil
      rw [if_pos (by rfl)]
      simp only [List.getElem_toArray, List.getElem_cons_succ, List.getElem_cons_zero]
      go_wp2_with fail
      refine (impl_CoefOf c1 ts1 (by have := P1.out.2.2.1; omega) s _ _ (AV.ofOwn8 (own_below8 O1_13.out hHeld))).mono ?_
      rintro e e3 ⟨rfl, hb5⟩
      go_wp2_with fail
      refine hK.out _ _ (hHeld.trans (hb5.mono hHeld.size)) (fun hHeld => ?_)
      refine wpAnyH_take (i := 18) (v := .int .i64 (coefA LA s)) rfl (by kernel_rfl) (by kernel_rfl) (by kernel_rfl) (fun _ _ _ h => h) (Or.inl ⟨by rfl, ?yy18⟩) hHeld ?_
      case yy18 => intro w hSw; go_simp; first | exact hco | (rw [IntWalk.i64_left]; exact hco)
      simp only [Act.put, List.getElem_toArray, List.getElem_cons_succ, List.getElem_cons_zero, List.setIfInBounds_toArray, List.set_cons_zero, List.set_cons_succ]
      refine wpAnyH_take (i := 19) (v := .bool false) rfl (by kernel_rfl) (by kernel_rfl) (by kernel_rfl) (fun _ _ _ h => h) (Or.inl ⟨by rfl, ?yy19⟩) hHeld ?_
      case yy19 => intro w hSw; go_simp
      simp only [Act.put, List.getElem_toArray, List.getElem_cons_succ, List.getElem_cons_zero, List.setIfInBounds_toArray, List.set_cons_zero, List.set_cons_succ]
      refine wpAnyH_done (by kernel_rfl) ?_ _
      have HB2 := Lib.hid (HBR.out.trans (hHeld.mono HBR.out.size))
      clear hHeld hco
      go_wp2
      go_roundw
      case rel => exact ⟨k + 1, by omega, by go_num, HB2.out⟩
      case measure => simp [RowKit.intOf]; omega
    ·
      have hltI : ¬ (k : Int) < 3 := by omega
      have hA8 : wrap64 (affAt8 c0 ts0 bs + affAt8 c1 ts1 bs) = affAt8 dA LA bs := by
        rw [at_made8 (.inl rfl) P0.out P1.out MA.out bs, IntWalk.i64_left, Int.one_mul]
      have hS8 : wrap64 (affAt8 c0 ts0 bs - affAt8 c1 ts1 bs) = affAt8 dS LS bs := by
        rw [at_made8 (.inr rfl) P0.out P1.out MS.out bs, IntWalk.i64_left]
        congr 1; omega
      obtain ⟨nA, hnA⟩ : ∃ x, affAt8 dA LA bs = x := ⟨_, rfl⟩
      obtain ⟨nS, hnS⟩ : ∃ x, affAt8 dS LS bs = x := ⟨_, rfl⟩
      obtain ⟨n0, hn0⟩ : ∃ x, affAt8 c0 ts0 bs = x := ⟨_, rfl⟩
      obtain ⟨n1, hn1⟩ : ∃ x, affAt8 c1 ts1 bs = x := ⟨_, rfl⟩
      rw [hn0, hn1, hnA] at hA8
      rw [hn0, hn1, hnS] at hS8
      have HnA := Lib.hid hnA
      have HnS := Lib.hid hnS
      have Hn0 := Lib.hid hn0
      have Hn1 := Lib.hid hn1
      clear hnA hnS hn0 hn1
      go_wp2_with fail
      have bd : Below wr.heap.size wr wr.drew := (Below.refl _ wr).drew
      refine wp_region_held_drew (S := Below wr.heap.size wr) (by kernel_rfl) bd (fun hHeld => ?_)
      clear bd
      refine wpAnyH_take (i := 0) (v := .agg #[.int .i64 dA, .slice x6 LA.length z6]) rfl (by kernel_rfl) (by kernel_rfl) (by kernel_rfl) (fun _ _ _ h => h) (Or.inl ⟨by rfl, ?yx0⟩) hHeld ?_
      case yx0 => intro w hSw; obtain ⟨⟨j0, j1⟩, _⟩ := blk2 ((hSw.block _ (lt_of_heap B6_13.out)).trans B6_13.out); go_simp
      simp only [Act.put, List.getElem_toArray, List.getElem_cons_succ, List.getElem_cons_zero, List.setIfInBounds_toArray, List.set_cons_zero, List.set_cons_succ]
      refine wpAnyH_take (i := 1) (v := .slice ab bs.length kb) rfl (by kernel_rfl) (by kernel_rfl) (by kernel_rfl) (fun _ _ _ h => h) (Or.inl ⟨by rfl, ?yx1⟩) hHeld ?_
      case yx1 => intro w hSw; go_simp
      simp only [Act.put, List.getElem_toArray, List.getElem_cons_succ, List.getElem_cons_zero, List.setIfInBounds_toArray, List.set_cons_zero, List.set_cons_succ]
      refine wpAnyH_take (i := 3) (v := .agg #[.int .i64 c0, .slice a0 ts0.length k0]) rfl (by kernel_rfl) (by kernel_rfl) (by kernel_rfl) (fun _ _ _ h => h) (Or.inl ⟨by rfl, ?yx3⟩) hHeld ?_
      case yx3 => intro w hSw; obtain ⟨⟨j0, j1⟩, _⟩ := blk2 ((hSw.block _ (lt_of_heap B0_13.out)).trans B0_13.out); go_simp
      simp only [Act.put, List.getElem_toArray, List.getElem_cons_succ, List.getElem_cons_zero, List.setIfInBounds_toArray, List.set_cons_zero, List.set_cons_succ]
      refine wpAnyH_take (i := 4) (v := .slice ab bs.length kb) rfl (by kernel_rfl) (by kernel_rfl) (by kernel_rfl) (fun _ _ _ h => h) (Or.inl ⟨by rfl, ?yx4⟩) hHeld ?_
      case yx4 => intro w hSw; go_simp
      simp only [Act.put, List.getElem_toArray, List.getElem_cons_succ, List.getElem_cons_zero, List.setIfInBounds_toArray, List.set_cons_zero, List.set_cons_succ]
      refine wpAnyH_take (i := 6) (v := .agg #[.int .i64 c1, .slice a1 ts1.length k1]) rfl (by kernel_rfl) (by kernel_rfl) (by kernel_rfl) (fun _ _ _ h => h) (Or.inl ⟨by rfl, ?yx6⟩) hHeld ?_
      case yx6 => intro w hSw; obtain ⟨⟨j0, j1⟩, _⟩ := blk2 ((hSw.block _ (lt_of_heap B1_13.out)).trans B1_13.out); go_simp
      simp only [Act.put, List.getElem_toArray, List.getElem_cons_succ, List.getElem_cons_zero, List.setIfInBounds_toArray, List.set_cons_zero, List.set_cons_succ]
      refine wpAnyH_take (i := 7) (v := .slice ab bs.length kb) rfl (by kernel_rfl) (by kernel_rfl) (by kernel_rfl) (fun _ _ _ h => h) (Or.inl ⟨by rfl, ?yx7⟩) hHeld ?_
      case yx7 => intro w hSw; go_simp
      simp only [Act.put, List.getElem_toArray, List.getElem_cons_succ, List.getElem_cons_zero, List.setIfInBounds_toArray, List.set_cons_zero, List.set_cons_succ]
      refine wpAnyH_ready (rs := [2]) (by kernel_rfl) (by simp) ?_
      refine AllReadyH.cons rfl (fun K hK => ?_) AllReadyH.nil
      rw [if_pos (by rfl)]
      simp only [List.getElem_toArray, List.getElem_cons_succ, List.getElem_cons_zero]
      go_wp2_with fail
      refine (impl_AffAt dA LA (by have := MA.out.len; omega) (by have := MA.out.d; have h1 := P0.out.1; have h2 := P1.out.1; omega) bs (by have := PB.out.1; omega) _ _ _ (AV.ofOwn8 (own_below8 O6_13.out hHeld)) (AV.ofOwnB (own_below8 Ob_13.out hHeld) rfl)).mono ?_
      rintro e f1 ⟨rfl, hb5⟩
      rw [HnA.out]
      go_wp2_with fail
      refine hK.out _ _ (hHeld.trans (hb5.mono hHeld.size)) (fun hHeld => ?_)
      refine wpAnyH_ready (rs := [5]) (by kernel_rfl) (by simp) ?_
      refine AllReadyH.cons rfl (fun K hK => ?_) AllReadyH.nil
      rw [if_pos (by rfl)]
      simp only [List.getElem_toArray, List.getElem_cons_succ, List.getElem_cons_zero]
      go_wp2_with fail
      refine (impl_AffAt c0 ts0 (by have := P0.out.2.2.1; omega) (by have h1 := P0.out.1; omega) bs (by have := PB.out.1; omega) _ _ _ (AV.ofOwn8 (own_below8 O0_13.out hHeld)) (AV.ofOwnB (own_below8 Ob_13.out hHeld) rfl)).mono ?_
      rintro e f2 ⟨rfl, hb5⟩
      rw [Hn0.out]
      go_wp2_with fail
      refine hK.out _ _ (hHeld.trans (hb5.mono hHeld.size)) (fun hHeld => ?_)
      refine wpAnyH_ready (rs := [8]) (by kernel_rfl) (by simp) ?_
      refine AllReadyH.cons rfl (fun K hK => ?_) AllReadyH.nil
      rw [if_pos (by rfl)]
      simp only [List.getElem_toArray, List.getElem_cons_succ, List.getElem_cons_zero]
      go_wp2_with fail
      refine (impl_AffAt c1 ts1 (by have := P1.out.2.2.1; omega) (by have h1 := P1.out.1; omega) bs (by have := PB.out.1; omega) _ _ _ (AV.ofOwn8 (own_below8 O1_13.out hHeld)) (AV.ofOwnB (own_below8 Ob_13.out hHeld) rfl)).mono ?_
      rintro e f3 ⟨rfl, hb5⟩
      rw [Hn1.out]
      go_wp2_with fail
      refine hK.out _ _ (hHeld.trans (hb5.mono hHeld.size)) (fun hHeld => ?_)
      refine wpAnyH_take (i := 9) (v := .int .i64 nA) rfl (by kernel_rfl) (by kernel_rfl) (by kernel_rfl) (fun _ _ _ h => h) (Or.inl ⟨by rfl, ?yx9⟩) hHeld ?_
      case yx9 => intro w hSw; go_simp; first | exact hA8 | (rw [IntWalk.i64_left]; exact hA8)
      simp only [Act.put, List.getElem_toArray, List.getElem_cons_succ, List.getElem_cons_zero, List.setIfInBounds_toArray, List.set_cons_zero, List.set_cons_succ]
      refine wpAnyH_take (i := 10) (v := .bool true) rfl (by kernel_rfl) (by kernel_rfl) (by kernel_rfl) (fun _ _ _ h => h) (Or.inl ⟨by rfl, ?yx10⟩) hHeld ?_
      case yx10 => intro w hSw; go_simp
      simp only [Act.put, List.getElem_toArray, List.getElem_cons_succ, List.getElem_cons_zero, List.setIfInBounds_toArray, List.set_cons_zero, List.set_cons_succ]
      refine wpAnyH_take (i := 11) (v := .bool true) rfl (by kernel_rfl) (by kernel_rfl) (by kernel_rfl) (fun _ _ _ h => h) (Or.inl ⟨by rfl, ?yx11⟩) hHeld ?_
      case yx11 => intro w hSw; go_simp
      simp only [Act.put, List.getElem_toArray, List.getElem_cons_succ, List.getElem_cons_zero, List.setIfInBounds_toArray, List.set_cons_zero, List.set_cons_succ]
      refine wpAnyH_take (i := 12) (v := .agg #[.int .i64 dS, .slice x8 LS.length z8]) rfl (by kernel_rfl) (by kernel_rfl) (by kernel_rfl) (fun _ _ _ h => h) (Or.inl ⟨by rfl, ?yx12⟩) hHeld ?_
      case yx12 => intro w hSw; obtain ⟨⟨j0, j1⟩, _⟩ := blk2 ((hSw.block _ (lt_of_heap B8_13.out)).trans B8_13.out); go_simp
      simp only [Act.put, List.getElem_toArray, List.getElem_cons_succ, List.getElem_cons_zero, List.setIfInBounds_toArray, List.set_cons_zero, List.set_cons_succ]
      refine wpAnyH_take (i := 13) (v := .slice ab bs.length kb) rfl (by kernel_rfl) (by kernel_rfl) (by kernel_rfl) (fun _ _ _ h => h) (Or.inl ⟨by rfl, ?yx13⟩) hHeld ?_
      case yx13 => intro w hSw; go_simp
      simp only [Act.put, List.getElem_toArray, List.getElem_cons_succ, List.getElem_cons_zero, List.setIfInBounds_toArray, List.set_cons_zero, List.set_cons_succ]
      refine wpAnyH_take (i := 15) (v := .agg #[.int .i64 c0, .slice a0 ts0.length k0]) rfl (by kernel_rfl) (by kernel_rfl) (by kernel_rfl) (fun _ _ _ h => h) (Or.inl ⟨by rfl, ?yx15⟩) hHeld ?_
      case yx15 => intro w hSw; obtain ⟨⟨j0, j1⟩, _⟩ := blk2 ((hSw.block _ (lt_of_heap B0_13.out)).trans B0_13.out); go_simp
      simp only [Act.put, List.getElem_toArray, List.getElem_cons_succ, List.getElem_cons_zero, List.setIfInBounds_toArray, List.set_cons_zero, List.set_cons_succ]
      refine wpAnyH_take (i := 16) (v := .slice ab bs.length kb) rfl (by kernel_rfl) (by kernel_rfl) (by kernel_rfl) (fun _ _ _ h => h) (Or.inl ⟨by rfl, ?yx16⟩) hHeld ?_
      case yx16 => intro w hSw; go_simp
      simp only [Act.put, List.getElem_toArray, List.getElem_cons_succ, List.getElem_cons_zero, List.setIfInBounds_toArray, List.set_cons_zero, List.set_cons_succ]
      refine wpAnyH_take (i := 18) (v := .agg #[.int .i64 c1, .slice a1 ts1.length k1]) rfl (by kernel_rfl) (by kernel_rfl) (by kernel_rfl) (fun _ _ _ h => h) (Or.inl ⟨by rfl, ?yx18⟩) hHeld ?_
      case yx18 => intro w hSw; obtain ⟨⟨j0, j1⟩, _⟩ := blk2 ((hSw.block _ (lt_of_heap B1_13.out)).trans B1_13.out); go_simp
      simp only [Act.put, List.getElem_toArray, List.getElem_cons_succ, List.getElem_cons_zero, List.setIfInBounds_toArray, List.set_cons_zero, List.set_cons_succ]
      refine wpAnyH_take (i := 19) (v := .slice ab bs.length kb) rfl (by kernel_rfl) (by kernel_rfl) (by kernel_rfl) (fun _ _ _ h => h) (Or.inl ⟨by rfl, ?yx19⟩) hHeld ?_
      case yx19 => intro w hSw; go_simp
      simp only [Act.put, List.getElem_toArray, List.getElem_cons_succ, List.getElem_cons_zero, List.setIfInBounds_toArray, List.set_cons_zero, List.set_cons_succ]
      refine wpAnyH_ready (rs := [14]) (by kernel_rfl) (by simp) ?_
      refine AllReadyH.cons rfl (fun K hK => ?_) AllReadyH.nil
      rw [if_pos (by rfl)]
      simp only [List.getElem_toArray, List.getElem_cons_succ, List.getElem_cons_zero]
      go_wp2_with fail
      refine (impl_AffAt dS LS (by have := MS.out.len; omega) (by have := MS.out.d; have h1 := P0.out.1; have h2 := P1.out.1; omega) bs (by have := PB.out.1; omega) _ _ _ (AV.ofOwn8 (own_below8 O8_13.out hHeld)) (AV.ofOwnB (own_below8 Ob_13.out hHeld) rfl)).mono ?_
      rintro e f4 ⟨rfl, hb5⟩
      rw [HnS.out]
      go_wp2_with fail
      refine hK.out _ _ (hHeld.trans (hb5.mono hHeld.size)) (fun hHeld => ?_)
      refine wpAnyH_ready (rs := [17]) (by kernel_rfl) (by simp) ?_
      refine AllReadyH.cons rfl (fun K hK => ?_) AllReadyH.nil
      rw [if_pos (by rfl)]
      simp only [List.getElem_toArray, List.getElem_cons_succ, List.getElem_cons_zero]
      go_wp2_with fail
      refine (impl_AffAt c0 ts0 (by have := P0.out.2.2.1; omega) (by have h1 := P0.out.1; omega) bs (by have := PB.out.1; omega) _ _ _ (AV.ofOwn8 (own_below8 O0_13.out hHeld)) (AV.ofOwnB (own_below8 Ob_13.out hHeld) rfl)).mono ?_
      rintro e f5 ⟨rfl, hb5⟩
      rw [Hn0.out]
      go_wp2_with fail
      refine hK.out _ _ (hHeld.trans (hb5.mono hHeld.size)) (fun hHeld => ?_)
      refine wpAnyH_ready (rs := [20]) (by kernel_rfl) (by simp) ?_
      refine AllReadyH.cons rfl (fun K hK => ?_) AllReadyH.nil
      rw [if_pos (by rfl)]
      simp only [List.getElem_toArray, List.getElem_cons_succ, List.getElem_cons_zero]
      go_wp2_with fail
      refine (impl_AffAt c1 ts1 (by have := P1.out.2.2.1; omega) (by have h1 := P1.out.1; omega) bs (by have := PB.out.1; omega) _ _ _ (AV.ofOwn8 (own_below8 O1_13.out hHeld)) (AV.ofOwnB (own_below8 Ob_13.out hHeld) rfl)).mono ?_
      rintro e f6 ⟨rfl, hb5⟩
      rw [Hn1.out]
      go_wp2_with fail
      refine hK.out _ _ (hHeld.trans (hb5.mono hHeld.size)) (fun hHeld => ?_)
      refine wpAnyH_take (i := 21) (v := .int .i64 nS) rfl (by kernel_rfl) (by kernel_rfl) (by kernel_rfl) (fun _ _ _ h => h) (Or.inl ⟨by rfl, ?yx21⟩) hHeld ?_
      case yx21 => intro w hSw; go_simp; first | exact hS8 | (rw [IntWalk.i64_left]; exact hS8)
      simp only [Act.put, List.getElem_toArray, List.getElem_cons_succ, List.getElem_cons_zero, List.setIfInBounds_toArray, List.set_cons_zero, List.set_cons_succ]
      refine wpAnyH_take (i := 22) (v := .bool true) rfl (by kernel_rfl) (by kernel_rfl) (by kernel_rfl) (fun _ _ _ h => h) (Or.inl ⟨by rfl, ?yx22⟩) hHeld ?_
      case yx22 => intro w hSw; go_simp
      simp only [Act.put, List.getElem_toArray, List.getElem_cons_succ, List.getElem_cons_zero, List.setIfInBounds_toArray, List.set_cons_zero, List.set_cons_succ]
      refine wpAnyH_take (i := 23) (v := .bool true) rfl (by kernel_rfl) (by kernel_rfl) (by kernel_rfl) (fun _ _ _ h => h) (Or.inl ⟨by rfl, ?yx23⟩) hHeld ?_
      case yx23 => intro w hSw; go_simp
      simp only [Act.put, List.getElem_toArray, List.getElem_cons_succ, List.getElem_cons_zero, List.setIfInBounds_toArray, List.set_cons_zero, List.set_cons_succ]
      refine wpAnyH_take (i := 24) (v := .bool true) rfl (by kernel_rfl) (by kernel_rfl) (by kernel_rfl) (fun _ _ _ h => h) (Or.inl ⟨by rfl, ?yx24⟩) hHeld ?_
      case yx24 => intro w hSw; go_simp
      simp only [Act.put, List.getElem_toArray, List.getElem_cons_succ, List.getElem_cons_zero, List.setIfInBounds_toArray, List.set_cons_zero, List.set_cons_succ]
      refine wpAnyH_done (by kernel_rfl) ?_ _
      have BF := LO_13.out.trans (hHeld.mono LO_13.out.size)
      clear hHeld hA8 hS8
      go_wp2
      go_ret
      exact ⟨rfl, BF⟩
end Go.Proofs.Ytfacenfiocdbgaa
