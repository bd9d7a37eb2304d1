/-
  What the laws of chapter 9 draw.
-/
import Derived.Test.YthecjaonbmefgaaP37ofBx
namespace Go.Proofs.Ythecjaonbmefgaa
open Go.RowKit Go.Lib
set_option linter.unusedSimpArgs false
set_option linter.unusedVariables false

theorem Wr.lowto {b n : Nat} {A B : World} (h : Wr b A B) (hB : n ≤ b) (hs : n ≤ A.heap.size) : Below n A B := ⟨h.os, h.tape, h.output, h.size, fun k hk => h.block k (by omega) (by omega)⟩
/-- A sum that lies there, its row at lo or above. -/
def SumAt (p : Int → List AR → Prop) (w : World) (lo : Nat) (c : Int) (ts : List AR) (v : Value) : Prop := p c ts ∧ w.ownsRow lo 54 2 v ts.length (acells ts)
theorem two_set (A : World) (p : Nat) (u v : Value) : A.grownBy ((A.setCell ⟨p, 0, Option.none⟩ u).setCell ⟨p, 1, Option.none⟩ v) (some p) := grown_set8 (grown_set8 (World.grownBy.refl _ _) _ _) _ _
theorem two_at {A : World} {p : Nat} {x y u v : Value} {t : TypeId} (h : A.heap[p]? = some (.cells #[x, y] t)) : ((A.setCell ⟨p, 0, Option.none⟩ u).setCell ⟨p, 1, Option.none⟩ v).heap[p]? = some (.cells #[u, v] t) :=
  Go.heap_setCell_same _ _ 1 _ _ v (Go.heap_setCell_same _ _ 0 _ _ u h)
theorem RV.g8 {A C : World} {lo p : Nat} {v : Value} {rs : List RG} (h : RV A lo v rs) (hg : A.grownBy C (some p)) (hp : p < lo) : RV C lo v rs :=
  h.same (Nat.le_refl _) (fun a u hl hc => (World.cell?_of_block (hg.block a.block (lt_of_cellA hc) (fun e => by injection e with e; omega))).trans hc) hg.size
def DrawnB9 (w : World) (e : Ending) (w' : World) : Prop := ∃ (rs : List RG) (v : Value), e = .returned v ∧ AnyR9 rs ∧ RV w' 0 v rs ∧ Below w.heap.size w w'
def DrawnL9 (p : Int → List AR → Prop) (q : List RG → Prop) (w : World) (e : Ending) (w' : World) : Prop := ∃ (c : Int) (ts : List AR) (rs : List RG) (v u : Value), e = .returned (.tuple #[.agg #[.int .i64 c, v], u]) ∧ p c ts ∧ q rs ∧ w'.ownsRow w.heap.size 54 2 v ts.length (acells ts) ∧ RV w' 0 u rs ∧ Below w.heap.size w w'
def DrawnI9 (w : World) (e : Ending) (w' : World) : Prop := ∃ (c : Int) (ts : List AR) (rs : List RG) (v u : Value) (sz : Int), e = .returned (.tuple #[.agg #[.int .i64 c, v], u, .int .i64 sz]) ∧ Any8 c ts ∧ AnyR9 rs ∧ w'.ownsRow w.heap.size 54 2 v ts.length (acells ts) ∧ RV w' 0 u rs ∧ Below w.heap.size w w'
set_option maxHeartbeats 4000000 in
set_option maxRecDepth 100000 in
theorem DrawBoxOk_is (a : Option Addr) (len cap : Nat) (w : World) (hlen : len ≤ 281474976710656) (hC : CodeIs w.heap.size w a len) : Calls Try.prog 14 #[.slice a len cap] w (DrawnB9 w) := by
  have HC := Lib.hid hC
  clear hC
  go_enter Try.func14, Try.ntmps14
  go_wp2_with fail
  refine (l1New w.heap.size a len cap _ hlen HC.out).mono ?_
  rintro e w1 ⟨rfl, hcur, hb1⟩
  have D1 : Hid (Dw w.heap.size a len cap w.heap.size w1) := ⟨hlen, Nat.le_refl _, HC.out.later hb1, hcur⟩
  have B1 := Lib.hid hb1
  clear hcur hb1
  go_wp2_with fail
  refine (l9Any_is w.heap.size a len cap w.heap.size _ D1.out).mono ?_
  rintro e w2 ⟨rs, v, rfl, hp, hr, d2, wr2⟩
  obtain ⟨va, vc, rfl⟩ := hr.shape
  have B2 := Lib.hid (B1.out.trans (wr2.lowto (Nat.le_refl _) B1.out.size))
  have R2 := Lib.hid hr.low
  have P2 := Lib.hid hp
  clear hp hr d2 wr2
  go_wp2
  go_ret
  exact ⟨rs, _, rfl, P2.out, R2.out, B2.out⟩
set_option maxHeartbeats 4000000 in
set_option maxRecDepth 100000 in
theorem DrawRounds_is (a : Option Addr) (len cap : Nat) (w : World) (hlen : len ≤ 281474976710656) (hC : CodeIs w.heap.size w a len) : Calls Try.prog 19 #[.slice a len cap] w (DrawnB9 w) := by
  have HC := Lib.hid hC
  clear hC
  go_enter Try.func19, Try.ntmps19
  go_wp2_with fail
  refine (l1New w.heap.size a len cap _ hlen HC.out).mono ?_
  rintro e w1 ⟨rfl, hcur, hb1⟩
  have D1 : Hid (Dw w.heap.size a len cap w.heap.size w1) := ⟨hlen, Nat.le_refl _, HC.out.later hb1, hcur⟩
  have B1 := Lib.hid hb1
  clear hcur hb1
  go_wp2_with fail
  refine (l9Any_is w.heap.size a len cap w.heap.size _ D1.out).mono ?_
  rintro e w2 ⟨rs, v, rfl, hp, hr, d2, wr2⟩
  obtain ⟨va, vc, rfl⟩ := hr.shape
  have B2 := Lib.hid (B1.out.trans (wr2.lowto (Nat.le_refl _) B1.out.size))
  have R2 := Lib.hid hr.low
  have P2 := Lib.hid hp
  clear hp hr d2 wr2
  go_wp2
  go_ret
  exact ⟨rs, _, rfl, P2.out, R2.out, B2.out⟩
set_option maxHeartbeats 4000000 in
set_option maxRecDepth 100000 in
theorem DrawLeast_is (a : Option Addr) (len cap : Nat) (w : World) (hlen : len ≤ 281474976710656) (hC : CodeIs w.heap.size w a len) : Calls Try.prog 15 #[.slice a len cap] w (DrawnL9 Any8 (AnyR9) w) := by
  have HC := Lib.hid hC
  clear hC
  have b0 := alloc_below w (.cells #[.int .i64 0, .slice Option.none 0 0] 26)
  have hs0 : (w.alloc (.cells #[.int .i64 0, .slice Option.none 0 0] 26)).heap.size = w.heap.size + 1 := by simp
  have R0 := Lib.hid (heap_last w (.cells #[.int .i64 0, .slice Option.none 0 0] 26))
  have C1 := Lib.hid ((HC.out.later b0).mono (show w.heap.size ≤ w.heap.size + 1 by omega))
  have B0 := Lib.hid b0
  clear b0
  go_enter Try.func15, Try.ntmps15
  go_wp2_with fail
  refine (l1New (w.heap.size + 1) a len cap _ hlen C1.out).mono ?_
  rintro e w1 ⟨rfl, hcur, hb1⟩
  rw [hs0] at hcur hb1 ⊢
  have D1 : Hid (Dw (w.heap.size + 1) a len cap (w.heap.size + 1) w1) := ⟨hlen, Nat.le_refl _, C1.out.later hb1, hcur⟩
  have R1 := Lib.hid (heap_n8 R0.out hb1 (by omega))
  have B1 := Lib.hid (B0.out.trans (hb1.mono (by omega)))
  have hz1 : w.heap.size + 1 + 1 ≤ w1.heap.size := D1.out.cur.lt
  clear hcur hb1 R0 B0 C1 HC hs0
  go_wp2_with fail
  refine (l8Any_is (w.heap.size + 1) a len cap (w.heap.size + 1) _ D1.out).mono ?_
  rintro e w2 ⟨c, ts, v, rfl, hp2, own2, d2, wr2⟩
  obtain ⟨va, vc, rfl⟩ := ownShape own2
  have P2 := Lib.hid hp2
  have O2 := Lib.hid own2
  have D2 := Lib.hid d2
  have hz2 := wr2.size
  have ba := alloc_below w2 (.cells #[.int .i64 c, .slice va ts.length vc] 26)
  have R2 := Lib.hid (heap_b8 (heap_w8 R1.out wr2 (by omega)) ba)
  have B2 := Lib.hid ((B1.out.trans (wr2.lowto (by omega) (by omega))).trans (ba.mono (by omega)))
  have T2 := Lib.hid (heap_last w2 (.cells #[.int .i64 c, .slice va ts.length vc] 26))
  have D3 := Lib.hid (D2.out.later ba)
  have O3 := Lib.hid (own_below8 O2.out ba)
  clear hp2 own2 d2 wr2 R1 B1 D1 D2 O2 ba
  go_wp2_with fail
  obtain ⟨w3, Wd⟩ : ∃ w3, Hid (w3 = (w2.alloc (.cells #[.int .i64 c, .slice va ts.length vc] 26)).drew) := ⟨_, rfl⟩
  have bd : Below (w2.alloc (.cells #[.int .i64 c, .slice va ts.length vc] 26)).heap.size (w2.alloc (.cells #[.int .i64 c, .slice va ts.length vc] 26)) w3 := by rw [Wd.out]; exact (Below.refl _ _).drew
  have hz3 : (w2.alloc (.cells #[.int .i64 c, .slice va ts.length vc] 26)).heap.size ≤ w3.heap.size := bd.size
  rw [World.size_alloc] at hz3
  have hS := heap_b8 T2.out bd
  refine wp_region_last (fun w' => w'.heap[w2.heap.size]? = some (.cells #[.int .i64 c, .slice va ts.length vc] 26)) 4 (by kernel_rfl) ?_
  rw [← Wd.out]
  have R3 := Lib.hid (heap_b8 R2.out bd)
  have B3 := Lib.hid (B2.out.trans (bd.mono B2.out.size))
  have D4 := Lib.hid (D3.out.later bd)
  have O4 := Lib.hid (own_below8 O3.out bd)
  clear bd Wd R2 B2 D3 O3 T2
  refine wpAnyL_take (i := 0) (v := .agg #[.int .i64 c, .slice va ts.length vc]) rfl (by kernel_rfl) (by kernel_rfl) (by kernel_rfl) (by kernel_rfl) (fun _ _ _ h => h) (Or.inl ⟨by rfl, ?yda0⟩) hS ?_
  case yda0 => intro w hSw; obtain ⟨⟨j0, j1⟩, _⟩ := blk2 hSw; go_simp
  simp only [Act.put, List.getElem_toArray, List.getElem_cons_succ, List.getElem_cons_zero, List.setIfInBounds_toArray, List.set_cons_zero, List.set_cons_succ]
  refine wpAnyL_take (i := 1) (v := .pointer (some ⟨w.heap.size + 1, 0, Option.none⟩)) rfl (by kernel_rfl) (by kernel_rfl) (by kernel_rfl) (by kernel_rfl) (fun _ _ _ h => h) (Or.inl ⟨by rfl, ?yda1⟩) hS ?_
  case yda1 => intro w hSw; go_simp
  simp only [Act.put, List.getElem_toArray, List.getElem_cons_succ, List.getElem_cons_zero, List.setIfInBounds_toArray, List.set_cons_zero, List.set_cons_succ]
  refine wpAnyL_ready (rs := [2]) (by kernel_rfl) (by simp) ?_
  refine AllReadyL.cons rfl (fun K hK => ?_) AllReadyL.nil
  rw [if_pos (by rfl)]
  simp only [List.getElem_toArray, List.getElem_cons_succ, List.getElem_cons_zero]
  go_wp2_with fail
  refine (l9Any_is (w.heap.size + 1) a len cap (w.heap.size + 1) _ D4.out).mono ?_
  rintro e w4 ⟨rs, u, rfl, hbs, hr5, d5, wr5⟩
  obtain ⟨ua, uc, rfl⟩ := hr5.shape
  have P5 := Lib.hid hbs
  have RV5 := Lib.hid hr5
  have hz5 := wr5.size
  have R5 := Lib.hid (heap_w8 R3.out wr5 (by omega))
  have O6 := Lib.hid (own_w8 O4.out wr5 (by omega))
  have B5 := Lib.hid (B3.out.trans (wr5.lowto (by omega) (by have := B3.out.size; omega)))
  have hw5 := wr5
  go_wp2_with fail
  have hS2 := heap_w8 hS hw5 (by omega)
  refine hK.out _ _ (fun _ => hS2) ?_
  clear hS hK
  have hS := hS2
  clear hS2
  clear hbs hr5 d5 wr5 hw5 R3 O4 B3 D4
  refine wpAnyL_ready (rs := [3]) (by kernel_rfl) (by simp) ?_
  refine AllReadyL.cons rfl (fun K hK => ?_) AllReadyL.nil
  rw [if_pos (by rfl)]
  simp only [List.getElem_toArray, List.getElem_cons_succ, List.getElem_cons_zero]
  obtain ⟨⟨e0, e1⟩, k0, k1⟩ := blk2 R5.out
  go_wp2_with fail
  have gS := two_set w4 w.heap.size (.int .i64 c) (.slice va ts.length vc)
  have hh := two_at (u := .int .i64 c) (v := .slice va ts.length vc) R5.out
  have hS2 := heap_g8 hS gS (fun e => by injection e with e; omega)
  refine hK.out _ _ (fun _ => hS2) ?_
  clear hS hK
  have hS := hS2
  clear hS2
  obtain ⟨w6, W6⟩ : ∃ w6, Hid (w6 = (w4.setCell ⟨w.heap.size, 0, Option.none⟩ (.int .i64 c)).setCell ⟨w.heap.size, 1, Option.none⟩ (.slice va ts.length vc)) := ⟨_, rfl⟩
  rw [← W6.out] at gS hh hS ⊢
  obtain ⟨⟨x0, x1⟩, _⟩ := blk2 hh
  have O9 := Lib.hid (own_g8 O6.out gS (fun k h1 h2 => by have := (O6.out.lt k h1).1; injection h2 with h2; omega))
  have RV9 := Lib.hid (RV5.out.g8 gS (by omega))
  have B9 := Lib.hid (low_g8 B5.out gS (Nat.le_refl _) (fun k h => by injection h with h; omega))
  clear gS hh W6 e0 e1 k0 k1 R5 O6 RV5 B5
  refine wpAnyL_ready (rs := [4]) (by kernel_rfl) (by simp) ?_
  refine AllReadyL.cons rfl (fun K hK => ?_) AllReadyL.nil
  rw [if_pos (by rfl)]
  simp only [List.getElem_toArray, List.getElem_cons_succ, List.getElem_cons_zero]
  go_wp2_with fail
  refine hK.out _ _ (fun e => absurd rfl e) ?_
  clear hK
  refine wpAnyL_done (by kernel_rfl) ?_ _
  clear hS
  go_wp2
  refine bodyPost_ret (v := .tuple #[.agg #[.int .i64 c, .slice va ts.length vc], .slice ua rs.length uc]) (by simp [results, Try.results15, go_sem, x0, x1]) rfl ⟨c, ts, rs, _, _, rfl, P2.out, P5.out, ownMono8 (by omega) O9.out, RV9.out.low, B9.out⟩
set_option maxHeartbeats 4000000 in
set_option maxRecDepth 100000 in
theorem DrawBox_is (a : Option Addr) (len cap : Nat) (w : World) (hlen : len ≤ 281474976710656) (hC : CodeIs w.heap.size w a len) : Calls Try.prog 6 #[.slice a len cap] w (DrawnL9 Small8 (Bx9 3) w) := by
  have HC := Lib.hid hC
  clear hC
  have b0 := alloc_below w (.cells #[.int .i64 0, .slice Option.none 0 0] 26)
  have hs0 : (w.alloc (.cells #[.int .i64 0, .slice Option.none 0 0] 26)).heap.size = w.heap.size + 1 := by simp
  have R0 := Lib.hid (heap_last w (.cells #[.int .i64 0, .slice Option.none 0 0] 26))
  have C1 := Lib.hid ((HC.out.later b0).mono (show w.heap.size ≤ w.heap.size + 1 by omega))
  have B0 := Lib.hid b0
  clear b0
  go_enter Try.func6, Try.ntmps6
  go_wp2_with fail
  refine (l1New (w.heap.size + 1) a len cap _ hlen C1.out).mono ?_
  rintro e w1 ⟨rfl, hcur, hb1⟩
  rw [hs0] at hcur hb1 ⊢
  have D1 : Hid (Dw (w.heap.size + 1) a len cap (w.heap.size + 1) w1) := ⟨hlen, Nat.le_refl _, C1.out.later hb1, hcur⟩
  have R1 := Lib.hid (heap_n8 R0.out hb1 (by omega))
  have B1 := Lib.hid (B0.out.trans (hb1.mono (by omega)))
  have hz1 : w.heap.size + 1 + 1 ≤ w1.heap.size := D1.out.cur.lt
  clear hcur hb1 R0 B0 C1 HC hs0
  go_wp2_with fail
  refine (l8Draw_is (w.heap.size + 1) a len cap (w.heap.size + 1) _ D1.out).mono ?_
  rintro e w2 ⟨c, ts, v, rfl, hp2, own2, d2, wr2⟩
  obtain ⟨va, vc, rfl⟩ := ownShape own2
  have P2 := Lib.hid hp2
  have O2 := Lib.hid own2
  have D2 := Lib.hid d2
  have hz2 := wr2.size
  have ba := alloc_below w2 (.cells #[.int .i64 c, .slice va ts.length vc] 26)
  have R2 := Lib.hid (heap_b8 (heap_w8 R1.out wr2 (by omega)) ba)
  have B2 := Lib.hid ((B1.out.trans (wr2.lowto (by omega) (by omega))).trans (ba.mono (by omega)))
  have T2 := Lib.hid (heap_last w2 (.cells #[.int .i64 c, .slice va ts.length vc] 26))
  have D3 := Lib.hid (D2.out.later ba)
  have O3 := Lib.hid (own_below8 O2.out ba)
  clear hp2 own2 d2 wr2 R1 B1 D1 D2 O2 ba
  go_wp2_with fail
  obtain ⟨w3, Wd⟩ : ∃ w3, Hid (w3 = (w2.alloc (.cells #[.int .i64 c, .slice va ts.length vc] 26)).drew) := ⟨_, rfl⟩
  have bd : Below (w2.alloc (.cells #[.int .i64 c, .slice va ts.length vc] 26)).heap.size (w2.alloc (.cells #[.int .i64 c, .slice va ts.length vc] 26)) w3 := by rw [Wd.out]; exact (Below.refl _ _).drew
  have hz3 : (w2.alloc (.cells #[.int .i64 c, .slice va ts.length vc] 26)).heap.size ≤ w3.heap.size := bd.size
  rw [World.size_alloc] at hz3
  have hS := heap_b8 T2.out bd
  refine wp_region_last (fun w' => w'.heap[w2.heap.size]? = some (.cells #[.int .i64 c, .slice va ts.length vc] 26)) 4 (by kernel_rfl) ?_
  rw [← Wd.out]
  have R3 := Lib.hid (heap_b8 R2.out bd)
  have B3 := Lib.hid (B2.out.trans (bd.mono B2.out.size))
  have D4 := Lib.hid (D3.out.later bd)
  have O4 := Lib.hid (own_below8 O3.out bd)
  clear bd Wd R2 B2 D3 O3 T2
  refine wpAnyL_take (i := 0) (v := .agg #[.int .i64 c, .slice va ts.length vc]) rfl (by kernel_rfl) (by kernel_rfl) (by kernel_rfl) (by kernel_rfl) (fun _ _ _ h => h) (Or.inl ⟨by rfl, ?yda0⟩) hS ?_
  case yda0 => intro w hSw; obtain ⟨⟨j0, j1⟩, _⟩ := blk2 hSw; go_simp
  simp only [Act.put, List.getElem_toArray, List.getElem_cons_succ, List.getElem_cons_zero, List.setIfInBounds_toArray, List.set_cons_zero, List.set_cons_succ]
  refine wpAnyL_take (i := 1) (v := .pointer (some ⟨w.heap.size + 1, 0, Option.none⟩)) rfl (by kernel_rfl) (by kernel_rfl) (by kernel_rfl) (by kernel_rfl) (fun _ _ _ h => h) (Or.inl ⟨by rfl, ?yda1⟩) hS ?_
  case yda1 => intro w hSw; go_simp
  simp only [Act.put, List.getElem_toArray, List.getElem_cons_succ, List.getElem_cons_zero, List.setIfInBounds_toArray, List.set_cons_zero, List.set_cons_succ]
  refine wpAnyL_ready (rs := [2]) (by kernel_rfl) (by simp) ?_
  refine AllReadyL.cons rfl (fun K hK => ?_) AllReadyL.nil
  rw [if_pos (by rfl)]
  simp only [List.getElem_toArray, List.getElem_cons_succ, List.getElem_cons_zero]
  go_wp2_with fail
  refine (l9Draw_is (w.heap.size + 1) a len cap (w.heap.size + 1) _ D4.out).mono ?_
  rintro e w4 ⟨rs, u, rfl, hbs, hr5, d5, wr5⟩
  obtain ⟨ua, uc, rfl⟩ := ownShape hr5
  have P5 := Lib.hid hbs
  have RV5 : Hid (RV w4 w3.heap.size (.slice ua rs.length uc) rs) := by
    have := RV.ofOwn9 (k := rs.length) hr5 rfl (Nat.le_refl _)
    rwa [List.take_length] at this
  have hz5 := wr5.size
  have R5 := Lib.hid (heap_w8 R3.out wr5 (by omega))
  have O6 := Lib.hid (own_w8 O4.out wr5 (by omega))
  have B5 := Lib.hid (B3.out.trans (wr5.lowto (by omega) (by have := B3.out.size; omega)))
  have hw5 := wr5
  go_wp2_with fail
  have hS2 := heap_w8 hS hw5 (by omega)
  refine hK.out _ _ (fun _ => hS2) ?_
  clear hS hK
  have hS := hS2
  clear hS2
  clear hbs hr5 d5 wr5 hw5 R3 O4 B3 D4
  refine wpAnyL_ready (rs := [3]) (by kernel_rfl) (by simp) ?_
  refine AllReadyL.cons rfl (fun K hK => ?_) AllReadyL.nil
  rw [if_pos (by rfl)]
  simp only [List.getElem_toArray, List.getElem_cons_succ, List.getElem_cons_zero]
  obtain ⟨⟨e0, e1⟩, k0, k1⟩ := blk2 R5.out
  go_wp2_with fail
  have gS := two_set w4 w.heap.size (.int .i64 c) (.slice va ts.length vc)
  have hh := two_at (u := .int .i64 c) (v := .slice va ts.length vc) R5.out
  have hS2 := heap_g8 hS gS (fun e => by injection e with e; omega)
  refine hK.out _ _ (fun _ => hS2) ?_
  clear hS hK
  have hS := hS2
  clear hS2
  obtain ⟨w6, W6⟩ : ∃ w6, Hid (w6 = (w4.setCell ⟨w.heap.size, 0, Option.none⟩ (.int .i64 c)).setCell ⟨w.heap.size, 1, Option.none⟩ (.slice va ts.length vc)) := ⟨_, rfl⟩
  rw [← W6.out] at gS hh hS ⊢
  obtain ⟨⟨x0, x1⟩, _⟩ := blk2 hh
  have O9 := Lib.hid (own_g8 O6.out gS (fun k h1 h2 => by have := (O6.out.lt k h1).1; injection h2 with h2; omega))
  have RV9 := Lib.hid (RV5.out.g8 gS (by omega))
  have B9 := Lib.hid (low_g8 B5.out gS (Nat.le_refl _) (fun k h => by injection h with h; omega))
  clear gS hh W6 e0 e1 k0 k1 R5 O6 RV5 B5
  refine wpAnyL_ready (rs := [4]) (by kernel_rfl) (by simp) ?_
  refine AllReadyL.cons rfl (fun K hK => ?_) AllReadyL.nil
  rw [if_pos (by rfl)]
  simp only [List.getElem_toArray, List.getElem_cons_succ, List.getElem_cons_zero]
  go_wp2_with fail
  refine hK.out _ _ (fun e => absurd rfl e) ?_
  clear hK
  refine wpAnyL_done (by kernel_rfl) ?_ _
  clear hS
  go_wp2
  refine bodyPost_ret (v := .tuple #[.agg #[.int .i64 c, .slice va ts.length vc], .slice ua rs.length uc]) (by simp [results, Try.results6, go_sem, x0, x1]) rfl ⟨c, ts, rs, _, _, rfl, P2.out, P5.out, ownMono8 (by omega) O9.out, RV9.out.low, B9.out⟩
set_option maxHeartbeats 4000000 in
set_option maxRecDepth 100000 in
theorem DrawInArr_is (a : Option Addr) (len cap : Nat) (w : World) (hlen : len ≤ 281474976710656) (hC : CodeIs w.heap.size w a len) : Calls Try.prog 18 #[.slice a len cap] w (DrawnI9 w) := by
  have HC := Lib.hid hC
  clear hC
  have b0 := alloc_below w (.cells #[.int .i64 0, .slice Option.none 0 0] 26)
  have hs0 : (w.alloc (.cells #[.int .i64 0, .slice Option.none 0 0] 26)).heap.size = w.heap.size + 1 := by simp
  have R0 := Lib.hid (heap_last w (.cells #[.int .i64 0, .slice Option.none 0 0] 26))
  have C1 := Lib.hid ((HC.out.later b0).mono (show w.heap.size ≤ w.heap.size + 1 by omega))
  have B0 := Lib.hid b0
  clear b0
  go_enter Try.func18, Try.ntmps18
  go_wp2_with fail
  refine (l1New (w.heap.size + 1) a len cap _ hlen C1.out).mono ?_
  rintro e w1 ⟨rfl, hcur, hb1⟩
  rw [hs0] at hcur hb1 ⊢
  have D1 : Hid (Dw (w.heap.size + 1) a len cap (w.heap.size + 1) w1) := ⟨hlen, Nat.le_refl _, C1.out.later hb1, hcur⟩
  have R1 := Lib.hid (heap_n8 R0.out hb1 (by omega))
  have B1 := Lib.hid (B0.out.trans (hb1.mono (by omega)))
  have hz1 : w.heap.size + 1 + 1 ≤ w1.heap.size := D1.out.cur.lt
  clear hcur hb1 R0 B0 C1 HC hs0
  go_wp2_with fail
  refine (l8Any_is (w.heap.size + 1) a len cap (w.heap.size + 1) _ D1.out).mono ?_
  rintro e w2 ⟨c, ts, v, rfl, hp2, own2, d2, wr2⟩
  obtain ⟨va, vc, rfl⟩ := ownShape own2
  have P2 := Lib.hid hp2
  have O2 := Lib.hid own2
  have D2 := Lib.hid d2
  have hz2 := wr2.size
  have ba := alloc_below w2 (.cells #[.int .i64 c, .slice va ts.length vc] 26)
  have R2 := Lib.hid (heap_b8 (heap_w8 R1.out wr2 (by omega)) ba)
  have B2 := Lib.hid ((B1.out.trans (wr2.lowto (by omega) (by omega))).trans (ba.mono (by omega)))
  have T2 := Lib.hid (heap_last w2 (.cells #[.int .i64 c, .slice va ts.length vc] 26))
  have D3 := Lib.hid (D2.out.later ba)
  have O3 := Lib.hid (own_below8 O2.out ba)
  clear hp2 own2 d2 wr2 R1 B1 D1 D2 O2 ba
  go_wp2_with fail
  refine (l9Any_is (w.heap.size + 1) a len cap (w.heap.size + 1) _ D3.out).mono ?_
  rintro e w3 ⟨rs, u, rfl, hbs, hr3, d3, wr3⟩
  obtain ⟨ua, uc, rfl⟩ := hr3.shape
  have hz3 := wr3.size
  rw [World.size_alloc] at hz3
  have P3 := Lib.hid hbs
  have RV3 := Lib.hid (hr3.same (lo' := w2.heap.size) (by simp) (Keeps.refl _ _) (Nat.le_refl _))
  have R3 := Lib.hid (heap_w8 R2.out wr3 (by omega))
  have T3 := Lib.hid (heap_w8 T2.out wr3 (by omega))
  have B3 := Lib.hid (B2.out.trans (wr3.lowto (by omega) B2.out.size))
  have D4 := Lib.hid d3
  have O4 := Lib.hid (own_w8 O3.out wr3 (by omega))
  clear hbs hr3 d3 wr3 R2 T2 B2 D3 O3
  go_wp2_with fail
  have bd : Below w3.heap.size w3 w3.drew := (Below.refl _ w3).drew
  obtain ⟨w4, Wd⟩ : ∃ w4, Hid (w4 = w3.drew) := ⟨_, rfl⟩
  have hS : w4.heap[w2.heap.size]? = some (.cells #[.int .i64 c, .slice va ts.length vc] 26) := by rw [Wd.out]; exact heap_b8 T3.out bd
  refine wp_region_last (fun w' => w'.heap[w2.heap.size]? = some (.cells #[.int .i64 c, .slice va ts.length vc] 26)) 7 (by kernel_rfl) ?_
  rw [← Wd.out] at bd ⊢
  have hz4 := bd.size
  have R4 := Lib.hid (heap_b8 R3.out bd)
  have B4 := Lib.hid (B3.out.trans (bd.mono B3.out.size))
  have D5 := Lib.hid (D4.out.later bd)
  have O5 := Lib.hid (own_below8 O4.out bd)
  have RV4 := Lib.hid (RV3.out.later bd)
  clear bd Wd R3 B3 D4 O4 RV3 T3
  refine wpAnyL_take (i := 0) (v := .agg #[.int .i64 c, .slice va ts.length vc]) rfl (by kernel_rfl) (by kernel_rfl) (by kernel_rfl) (by kernel_rfl) (fun _ _ _ h => h) (Or.inl ⟨by rfl, ?yia0⟩) hS ?_
  case yia0 => intro w hSw; obtain ⟨⟨j0, j1⟩, _⟩ := blk2 hSw; go_simp
  simp only [Act.put, List.getElem_toArray, List.getElem_cons_succ, List.getElem_cons_zero, List.setIfInBounds_toArray, List.set_cons_zero, List.set_cons_succ]
  refine wpAnyL_take (i := 1) (v := .slice ua rs.length uc) rfl (by kernel_rfl) (by kernel_rfl) (by kernel_rfl) (by kernel_rfl) (fun _ _ _ h => h) (Or.inl ⟨by rfl, ?yia1⟩) hS ?_
  case yia1 => intro w hSw; go_simp
  simp only [Act.put, List.getElem_toArray, List.getElem_cons_succ, List.getElem_cons_zero, List.setIfInBounds_toArray, List.set_cons_zero, List.set_cons_succ]
  refine wpAnyL_take (i := 2) (v := .pointer (some ⟨w.heap.size + 1, 0, Option.none⟩)) rfl (by kernel_rfl) (by kernel_rfl) (by kernel_rfl) (by kernel_rfl) (fun _ _ _ h => h) (Or.inl ⟨by rfl, ?yia2⟩) hS ?_
  case yia2 => intro w hSw; go_simp
  simp only [Act.put, List.getElem_toArray, List.getElem_cons_succ, List.getElem_cons_zero, List.setIfInBounds_toArray, List.set_cons_zero, List.set_cons_succ]
  have ba := alloc_below w4 (.cells #[.int .i64 8, .int .i64 16, .int .i64 30, .int .i64 1, .int .i64 0] 3)
  have hbw4 := D5.out.cur.lt
  refine wpAnyL_ready (rs := [3]) (by kernel_rfl) (by simp) ?_
  refine AllReadyL.cons rfl (fun K hK => ?_) AllReadyL.nil
  rw [if_pos (by rfl)]
  simp only [List.getElem_toArray, List.getElem_cons_succ, List.getElem_cons_zero]
  go_wp2_with fail
  have hS2 := heap_b8 hS ba
  refine hK.out _ _ (fun _ => hS2) ?_
  clear hS hK
  have hS := hS2
  clear hS2
  refine wpAnyL_ready (rs := [4]) (by kernel_rfl) (by simp) ?_
  refine AllReadyL.cons rfl (fun K hK => ?_) AllReadyL.nil
  rw [if_pos (by rfl)]
  simp only [List.getElem_toArray, List.getElem_cons_succ, List.getElem_cons_zero]
  go_wp2_with fail
  refine (l1Int_is (w.heap.size + 1) a len cap (w.heap.size + 1) w4.heap.size 5 5 (fun z => 0 ≤ z ∧ z ≤ 30) _ (D5.out.later ba) (by omega) (by omega) (by omega) (fun j hj => ints_cell w4 [8, 16, 30, 1, 0] _ (by decide) _ rfl j hj)).mono ?_
  rintro e w5 ⟨sz, rfl, hsz, d5, wr5⟩
  have U5 : Wr (w.heap.size + 1) w4 w5 := (Wr.of_below ba).trans wr5
  have hw5 := wr5
  have hz5 := U5.size
  have R5 := Lib.hid (heap_w8 R4.out U5 (by omega))
  have O6 := Lib.hid (own_w8 O5.out U5 (by omega))
  have RV5 := Lib.hid (RV4.out.same (Nat.le_refl _) (fun a v hl hc => U5.keeps a v (by omega) hc) U5.size)
  have B5 := Lib.hid (B4.out.trans (U5.lowto (by omega) (by have := B4.out.size; omega)))
  go_wp2_with fail
  have hS2 := heap_w8 hS hw5 (by omega)
  refine hK.out _ _ (fun _ => hS2) ?_
  clear hS hK
  have hS := hS2
  clear hS2
  clear hsz d5 wr5 hw5 U5 ba R4 O5 RV4 B4 D5
  refine wpAnyL_ready (rs := [5]) (by kernel_rfl) (by simp) ?_
  refine AllReadyL.cons rfl (fun K hK => ?_) AllReadyL.nil
  rw [if_pos (by rfl)]
  simp only [List.getElem_toArray, List.getElem_cons_succ, List.getElem_cons_zero]
  obtain ⟨⟨e0, e1⟩, k0, k1⟩ := blk2 R5.out
  go_wp2_with fail
  have gS := two_set w5 w.heap.size (.int .i64 c) (.slice va ts.length vc)
  have hh := two_at (u := .int .i64 c) (v := .slice va ts.length vc) R5.out
  have hS2 := heap_g8 hS gS (fun e => by injection e with e; omega)
  refine hK.out _ _ (fun _ => hS2) ?_
  clear hS hK
  have hS := hS2
  clear hS2
  obtain ⟨w6, W6⟩ : ∃ w6, Hid (w6 = (w5.setCell ⟨w.heap.size, 0, Option.none⟩ (.int .i64 c)).setCell ⟨w.heap.size, 1, Option.none⟩ (.slice va ts.length vc)) := ⟨_, rfl⟩
  rw [← W6.out] at gS hh hS ⊢
  obtain ⟨⟨x0, x1⟩, _⟩ := blk2 hh
  have O9 := Lib.hid (own_g8 O6.out gS (fun k h1 h2 => by have := (O6.out.lt k h1).1; injection h2 with h2; omega))
  have RV9 := Lib.hid (RV5.out.g8 gS (by omega))
  have B9 := Lib.hid (low_g8 B5.out gS (Nat.le_refl _) (fun k h => by injection h with h; omega))
  clear gS hh W6 e0 e1 k0 k1 R5 O6 RV5 B5
  refine wpAnyL_ready (rs := [6]) (by kernel_rfl) (by simp) ?_
  refine AllReadyL.cons rfl (fun K hK => ?_) AllReadyL.nil
  rw [if_pos (by rfl)]
  simp only [List.getElem_toArray, List.getElem_cons_succ, List.getElem_cons_zero]
  go_wp2_with fail
  have hS2 := hS
  refine hK.out _ _ (fun _ => hS2) ?_
  clear hS hK
  have hS := hS2
  clear hS2
  refine wpAnyL_ready (rs := [7]) (by kernel_rfl) (by simp) ?_
  refine AllReadyL.cons rfl (fun K hK => ?_) AllReadyL.nil
  rw [if_pos (by rfl)]
  simp only [List.getElem_toArray, List.getElem_cons_succ, List.getElem_cons_zero]
  go_wp2_with fail
  refine hK.out _ _ (fun e => absurd rfl e) ?_
  clear hK
  refine wpAnyL_done (by kernel_rfl) ?_ _
  clear hS
  go_wp2
  refine bodyPost_ret (v := .tuple #[.agg #[.int .i64 c, .slice va ts.length vc], .slice ua rs.length uc, .int .i64 sz]) (by simp [results, Try.results18, go_sem, x0, x1]) rfl ⟨c, ts, rs, _, _, sz, rfl, P2.out, P3.out, ownMono8 (by omega) O9.out, RV9.out.low, B9.out⟩
end Go.Proofs.Ythecjaonbmefgaa
