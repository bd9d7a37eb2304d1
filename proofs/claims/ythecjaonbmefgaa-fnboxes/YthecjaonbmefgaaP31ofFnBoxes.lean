/-
  Texts in one: B9Draws, RngOk.
-/
import Derived.Test.YthecjaonbmefgaaP30ofFnBoxes
import Derived.Test.YthecjaonbmefgaaP29ofFnBoxes
import Derived.Test.YthecjaonbmefgaaP15ofFnBoxes
import Derived.Test.YthecjaonbmefgaaP05ofFnBoxes
import Derived.Deep.RegionHeld
import Derived.Deep.QuietTactic
import Derived.BigQuiet
import Derived.Shelf.Abstract
/-
  What the laws of chapter 9 draw.
-/
namespace Go.Proofs.Ythecjaonbmefgaa
open Go.RowKit Go.Lib
set_option linter.unusedSimpArgs false
set_option linter.unusedVariables false

theorem Wr.lowto {b n : Nat} {A B : World} (h : Wr b A B) (hB : n ≤ b) (hs : n ≤ A.heap.size) : Below n A B := ⟨h.os, h.tape, h.output, h.size, fun k hk => h.block k (by omega) (by omega)⟩
/-- A sum that lies there, its row at lo or above. -/
def SumAt (p : Int → List AR → Prop) (w : World) (lo : Nat) (c : Int) (ts : List AR) (v : Value) : Prop := p c ts ∧ w.ownsRow lo 54 2 v ts.length (acells ts)
theorem two_set (A : World) (p : Nat) (u v : Value) : A.grownBy ((A.setCell ⟨p, 0, Option.none⟩ u).setCell ⟨p, 1, Option.none⟩ v) (some p) := grown_set8 (grown_set8 (World.grownBy.refl _ _) _ _) _ _
theorem two_at {A : World} {p : Nat} {x y u v : Value} {t : TypeId} (h : A.heap[p]? = some (.cells #[x, y] t)) : ((A.setCell ⟨p, 0, Option.none⟩ u).setCell ⟨p, 1, Option.none⟩ v).heap[p]? = some (.cells #[u, v] t) :=
  Go.heap_setCell_same _ _ 1 _ _ v (Go.heap_setCell_same _ _ 0 _ _ u h)
theorem RV.g8 {A C : World} {lo p : Nat} {v : Value} {rs : List RG} (h : RV A lo v rs) (hg : A.grownBy C (some p)) (hp : p < lo) : RV C lo v rs :=
  h.same (Nat.le_refl _) (fun a u hl hc => (World.cell?_of_block (hg.block a.block (lt_of_cellA hc) (fun e => by injection e with e; omega))).trans hc) hg.size
def DrawnB9 (w : World) (e : Ending) (w' : World) : Prop := ∃ (rs : List RG) (v : Value), e = .returned v ∧ AnyR9 rs ∧ RV w' 0 v rs ∧ Below w.heap.size w w'
def DrawnL9 (p : Int → List AR → Prop) (q : List RG → Prop) (w : World) (e : Ending) (w' : World) : Prop := ∃ (c : Int) (ts : List AR) (rs : List RG) (v u : Value), e = .returned (.tuple #[.agg #[.int .i64 c, v], u]) ∧ p c ts ∧ q rs ∧ w'.ownsRow w.heap.size 54 2 v ts.length (acells ts) ∧ RV w' 0 u rs ∧ Below w.heap.size w w'
def DrawnI9 (w : World) (e : Ending) (w' : World) : Prop := ∃ (c : Int) (ts : List AR) (rs : List RG) (v u : Value) (sz : Int), e = .returned (.tuple #[.agg #[.int .i64 c, v], u, .int .i64 sz]) ∧ Any8 c ts ∧ AnyR9 rs ∧ w'.ownsRow w.heap.size 54 2 v ts.length (acells ts) ∧ RV w' 0 u rs ∧ Below w.heap.size w w'
set_option maxHeartbeats 4000000 in
set_option maxRecDepth 100000 in
theorem DrawBoxOk_is (a : Option Addr) (len cap : Nat) (w : World) (hlen : len ≤ 281474976710656) (hC : CodeIs w.heap.size w a len) : Calls Try.prog 14 #[.slice a len cap] w (DrawnB9 w) := by
  have HC := Lib.hid hC
  clear hC
  go_enter Try.func14, Try.ntmps14
  go_wp2_with fail
  refine (l1New w.heap.size a len cap _ hlen HC.out).mono ?_
  rintro e w1 ⟨rfl, hcur, hb1⟩
  have D1 : Hid (Dw w.heap.size a len cap w.heap.size w1) := ⟨hlen, Nat.le_refl _, HC.out.later hb1, hcur⟩
  have B1 := Lib.hid hb1
  clear hcur hb1
  go_wp2_with fail
  refine (l9Any_is w.heap.size a len cap w.heap.size _ D1.out).mono ?_
  rintro e w2 ⟨rs, v, rfl, hp, hr, d2, wr2⟩
  obtain ⟨va, vc, rfl⟩ := hr.shape
  have B2 := Lib.hid (B1.out.trans (wr2.lowto (Nat.le_refl _) B1.out.size))
  have R2 := Lib.hid hr.low
  have P2 := Lib.hid hp
  clear hp hr d2 wr2
  go_wp2
  go_ret
  exact ⟨rs, _, rfl, P2.out, R2.out, B2.out⟩
set_option maxHeartbeats 4000000 in
set_option maxRecDepth 100000 in
theorem DrawRounds_is (a : Option Addr) (len cap : Nat) (w : World) (hlen : len ≤ 281474976710656) (hC : CodeIs w.heap.size w a len) : Calls Try.prog 19 #[.slice a len cap] w (DrawnB9 w) := by
  have HC := Lib.hid hC
  clear hC
  go_enter Try.func19, Try.ntmps19
  go_wp2_with fail
  refine (l1New w.heap.size a len cap _ hlen HC.out).mono ?_
  rintro e w1 ⟨rfl, hcur, hb1⟩
  have D1 : Hid (Dw w.heap.size a len cap w.heap.size w1) := ⟨hlen, Nat.le_refl _, HC.out.later hb1, hcur⟩
  have B1 := Lib.hid hb1
  clear hcur hb1
  go_wp2_with fail
  refine (l9Any_is w.heap.size a len cap w.heap.size _ D1.out).mono ?_
  rintro e w2 ⟨rs, v, rfl, hp, hr, d2, wr2⟩
  obtain ⟨va, vc, rfl⟩ := hr.shape
  have B2 := Lib.hid (B1.out.trans (wr2.lowto (Nat.le_refl _) B1.out.size))
  have R2 := Lib.hid hr.low
  have P2 := Lib.hid hp
  clear hp hr d2 wr2
  go_wp2
  go_ret
  exact ⟨rs, _, rfl, P2.out, R2.out, B2.out⟩
set_option maxHeartbeats 4000000 in
set_option maxRecDepth 100000 in
theorem DrawLeast_is (a : Option Addr) (len cap : Nat) (w : World) (hlen : len ≤ 281474976710656) (hC : CodeIs w.heap.size w a len) : Calls Try.prog 15 #[.slice a len cap] w (DrawnL9 Any8 (AnyR9) w) := by
  have HC := Lib.hid hC
  clear hC
  have b0 := alloc_below w (.cells #[.int .i64 0, .slice Option.none 0 0] 26)
  have hs0 : (w.alloc (.cells #[.int .i64 0, .slice Option.none 0 0] 26)).heap.size = w.heap.size + 1 := by simp
  have R0 := Lib.hid (heap_last w (.cells #[.int .i64 0, .slice Option.none 0 0] 26))
  have C1 := Lib.hid ((HC.out.later b0).mono (show w.heap.size ≤ w.heap.size + 1 by omega))
  have B0 := Lib.hid b0
  clear b0
  go_enter Try.func15, Try.ntmps15
  go_wp2_with fail
  refine (l1New (w.heap.size + 1) a len cap _ hlen C1.out).mono ?_
  rintro e w1 ⟨rfl, hcur, hb1⟩
  rw [hs0] at hcur hb1 ⊢
  have D1 : Hid (Dw (w.heap.size + 1) a len cap (w.heap.size + 1) w1) := ⟨hlen, Nat.le_refl _, C1.out.later hb1, hcur⟩
  have R1 := Lib.hid (heap_n8 R0.out hb1 (by omega))
  have B1 := Lib.hid (B0.out.trans (hb1.mono (by omega)))
  have hz1 : w.heap.size + 1 + 1 ≤ w1.heap.size := D1.out.cur.lt
  clear hcur hb1 R0 B0 C1 HC hs0
  go_wp2_with fail
  refine (l8Any_is (w.heap.size + 1) a len cap (w.heap.size + 1) _ D1.out).mono ?_
  rintro e w2 ⟨c, ts, v, rfl, hp2, own2, d2, wr2⟩
  obtain ⟨va, vc, rfl⟩ := ownShape own2
  have P2 := Lib.hid hp2
  have O2 := Lib.hid own2
  have D2 := Lib.hid d2
  have hz2 := wr2.size
  have ba := alloc_below w2 (.cells #[.int .i64 c, .slice va ts.length vc] 26)
  have R2 := Lib.hid (heap_b8 (heap_w8 R1.out wr2 (by omega)) ba)
  have B2 := Lib.hid ((B1.out.trans (wr2.lowto (by omega) (by omega))).trans (ba.mono (by omega)))
  have T2 := Lib.hid (heap_last w2 (.cells #[.int .i64 c, .slice va ts.length vc] 26))
  have D3 := Lib.hid (D2.out.later ba)
  have O3 := Lib.hid (own_below8 O2.out ba)
  clear hp2 own2 d2 wr2 R1 B1 D1 D2 O2 ba
  go_wp2_with fail
  obtain ⟨w3, Wd⟩ : ∃ w3, Hid (w3 = (w2.alloc (.cells #[.int .i64 c, .slice va ts.length vc] 26)).drew) := ⟨_, rfl⟩
  have bd : Below (w2.alloc (.cells #[.int .i64 c, .slice va ts.length vc] 26)).heap.size (w2.alloc (.cells #[.int .i64 c, .slice va ts.length vc] 26)) w3 := by rw [Wd.out]; exact (Below.refl _ _).drew
  have hz3 : (w2.alloc (.cells #[.int .i64 c, .slice va ts.length vc] 26)).heap.size ≤ w3.heap.size := bd.size
  rw [World.size_alloc] at hz3
  have hS := heap_b8 T2.out bd
  refine wp_region_last (fun w' => w'.heap[w2.heap.size]? = some (.cells #[.int .i64 c, .slice va ts.length vc] 26)) 4 (by kernel_rfl) ?_
  rw [← Wd.out]
  have R3 := Lib.hid (heap_b8 R2.out bd)
  have B3 := Lib.hid (B2.out.trans (bd.mono B2.out.size))
  have D4 := Lib.hid (D3.out.later bd)
  have O4 := Lib.hid (own_below8 O3.out bd)
  clear bd Wd R2 B2 D3 O3 T2
  refine wpAnyL_take (i := 0) (v := .agg #[.int .i64 c, .slice va ts.length vc]) rfl (by kernel_rfl) (by kernel_rfl) (by kernel_rfl) (by kernel_rfl) (fun _ _ _ h => h) (Or.inl ⟨by rfl, ?yda0⟩) hS ?_
  case yda0 => intro w hSw; obtain ⟨⟨j0, j1⟩, _⟩ := blk2 hSw; go_simp
  simp only [Act.put, List.getElem_toArray, List.getElem_cons_succ, List.getElem_cons_zero, List.setIfInBounds_toArray, List.set_cons_zero, List.set_cons_succ]
  refine wpAnyL_take (i := 1) (v := .pointer (some ⟨w.heap.size + 1, 0, Option.none⟩)) rfl (by kernel_rfl) (by kernel_rfl) (by kernel_rfl) (by kernel_rfl) (fun _ _ _ h => h) (Or.inl ⟨by rfl, ?yda1⟩) hS ?_
  case yda1 => intro w hSw; go_simp
  simp only [Act.put, List.getElem_toArray, List.getElem_cons_succ, List.getElem_cons_zero, List.setIfInBounds_toArray, List.set_cons_zero, List.set_cons_succ]
  refine wpAnyL_ready (rs := [2]) (by kernel_rfl) (by simp) ?_
  refine AllReadyL.cons rfl (fun K hK => ?_) AllReadyL.nil
  rw [if_pos (by rfl)]
  simp only [List.getElem_toArray, List.getElem_cons_succ, List.getElem_cons_zero]
  go_wp2_with fail
  refine (l9Any_is (w.heap.size + 1) a len cap (w.heap.size + 1) _ D4.out).mono ?_
  rintro e w4 ⟨rs, u, rfl, hbs, hr5, d5, wr5⟩
  obtain ⟨ua, uc, rfl⟩ := hr5.shape
  have P5 := Lib.hid hbs
  have RV5 := Lib.hid hr5
  have hz5 := wr5.size
  have R5 := Lib.hid (heap_w8 R3.out wr5 (by omega))
  have O6 := Lib.hid (own_w8 O4.out wr5 (by omega))
  have B5 := Lib.hid (B3.out.trans (wr5.lowto (by omega) (by have := B3.out.size; omega)))
  have hw5 := wr5
  go_wp2_with fail
  have hS2 := heap_w8 hS hw5 (by omega)
  refine hK.out _ _ (fun _ => hS2) ?_
  clear hS hK
  have hS := hS2
  clear hS2
  clear hbs hr5 d5 wr5 hw5 R3 O4 B3 D4
  refine wpAnyL_ready (rs := [3]) (by kernel_rfl) (by simp) ?_
  refine AllReadyL.cons rfl (fun K hK => ?_) AllReadyL.nil
  rw [if_pos (by rfl)]
  simp only [List.getElem_toArray, List.getElem_cons_succ, List.getElem_cons_zero]
  obtain ⟨⟨e0, e1⟩, k0, k1⟩ := blk2 R5.out
  go_wp2_with fail
  have gS := two_set w4 w.heap.size (.int .i64 c) (.slice va ts.length vc)
  have hh := two_at (u := .int .i64 c) (v := .slice va ts.length vc) R5.out
  have hS2 := heap_g8 hS gS (fun e => by injection e with e; omega)
  refine hK.out _ _ (fun _ => hS2) ?_
  clear hS hK
  have hS := hS2
  clear hS2
  obtain ⟨w6, W6⟩ : ∃ w6, Hid (w6 = (w4.setCell ⟨w.heap.size, 0, Option.none⟩ (.int .i64 c)).setCell ⟨w.heap.size, 1, Option.none⟩ (.slice va ts.length vc)) := ⟨_, rfl⟩
  rw [← W6.out] at gS hh hS ⊢
  obtain ⟨⟨x0, x1⟩, _⟩ := blk2 hh
  have O9 := Lib.hid (own_g8 O6.out gS (fun k h1 h2 => by have := (O6.out.lt k h1).1; injection h2 with h2; omega))
  have RV9 := Lib.hid (RV5.out.g8 gS (by omega))
  have B9 := Lib.hid (low_g8 B5.out gS (Nat.le_refl _) (fun k h => by injection h with h; omega))
  clear gS hh W6 e0 e1 k0 k1 R5 O6 RV5 B5
  refine wpAnyL_ready (rs := [4]) (by kernel_rfl) (by simp) ?_
  refine AllReadyL.cons rfl (fun K hK => ?_) AllReadyL.nil
  rw [if_pos (by rfl)]
  simp only [List.getElem_toArray, List.getElem_cons_succ, List.getElem_cons_zero]
  go_wp2_with fail
  refine hK.out _ _ (fun e => absurd rfl e) ?_
  clear hK
  refine wpAnyL_done (by kernel_rfl) ?_ _
  clear hS
  go_wp2
  refine bodyPost_ret (v := .tuple #[.agg #[.int .i64 c, .slice va ts.length vc], .slice ua rs.length uc]) (by simp [results, Try.results15, go_sem, x0, x1]) rfl ⟨c, ts, rs, _, _, rfl, P2.out, P5.out, ownMono8 (by omega) O9.out, RV9.out.low, B9.out⟩
set_option maxHeartbeats 4000000 in
set_option maxRecDepth 100000 in
theorem DrawBox_is (a : Option Addr) (len cap : Nat) (w : World) (hlen : len ≤ 281474976710656) (hC : CodeIs w.heap.size w a len) : Calls Try.prog 6 #[.slice a len cap] w (DrawnL9 Small8 (Bx9 3) w) := by
  have HC := Lib.hid hC
  clear hC
  have b0 := alloc_below w (.cells #[.int .i64 0, .slice Option.none 0 0] 26)
  have hs0 : (w.alloc (.cells #[.int .i64 0, .slice Option.none 0 0] 26)).heap.size = w.heap.size + 1 := by simp
  have R0 := Lib.hid (heap_last w (.cells #[.int .i64 0, .slice Option.none 0 0] 26))
  have C1 := Lib.hid ((HC.out.later b0).mono (show w.heap.size ≤ w.heap.size + 1 by omega))
  have B0 := Lib.hid b0
  clear b0
  go_enter Try.func6, Try.ntmps6
  go_wp2_with fail
  refine (l1New (w.heap.size + 1) a len cap _ hlen C1.out).mono ?_
  rintro e w1 ⟨rfl, hcur, hb1⟩
  rw [hs0] at hcur hb1 ⊢
  have D1 : Hid (Dw (w.heap.size + 1) a len cap (w.heap.size + 1) w1) := ⟨hlen, Nat.le_refl _, C1.out.later hb1, hcur⟩
  have R1 := Lib.hid (heap_n8 R0.out hb1 (by omega))
  have B1 := Lib.hid (B0.out.trans (hb1.mono (by omega)))
  have hz1 : w.heap.size + 1 + 1 ≤ w1.heap.size := D1.out.cur.lt
  clear hcur hb1 R0 B0 C1 HC hs0
  go_wp2_with fail
  refine (l8Draw_is (w.heap.size + 1) a len cap (w.heap.size + 1) _ D1.out).mono ?_
  rintro e w2 ⟨c, ts, v, rfl, hp2, own2, d2, wr2⟩
  obtain ⟨va, vc, rfl⟩ := ownShape own2
  have P2 := Lib.hid hp2
  have O2 := Lib.hid own2
  have D2 := Lib.hid d2
  have hz2 := wr2.size
  have ba := alloc_below w2 (.cells #[.int .i64 c, .slice va ts.length vc] 26)
  have R2 := Lib.hid (heap_b8 (heap_w8 R1.out wr2 (by omega)) ba)
  have B2 := Lib.hid ((B1.out.trans (wr2.lowto (by omega) (by omega))).trans (ba.mono (by omega)))
  have T2 := Lib.hid (heap_last w2 (.cells #[.int .i64 c, .slice va ts.length vc] 26))
  have D3 := Lib.hid (D2.out.later ba)
  have O3 := Lib.hid (own_below8 O2.out ba)
  clear hp2 own2 d2 wr2 R1 B1 D1 D2 O2 ba
  go_wp2_with fail
  obtain ⟨w3, Wd⟩ : ∃ w3, Hid (w3 = (w2.alloc (.cells #[.int .i64 c, .slice va ts.length vc] 26)).drew) := ⟨_, rfl⟩
  have bd : Below (w2.alloc (.cells #[.int .i64 c, .slice va ts.length vc] 26)).heap.size (w2.alloc (.cells #[.int .i64 c, .slice va ts.length vc] 26)) w3 := by rw [Wd.out]; exact (Below.refl _ _).drew
  have hz3 : (w2.alloc (.cells #[.int .i64 c, .slice va ts.length vc] 26)).heap.size ≤ w3.heap.size := bd.size
  rw [World.size_alloc] at hz3
  have hS := heap_b8 T2.out bd
  refine wp_region_last (fun w' => w'.heap[w2.heap.size]? = some (.cells #[.int .i64 c, .slice va ts.length vc] 26)) 4 (by kernel_rfl) ?_
  rw [← Wd.out]
  have R3 := Lib.hid (heap_b8 R2.out bd)
  have B3 := Lib.hid (B2.out.trans (bd.mono B2.out.size))
  have D4 := Lib.hid (D3.out.later bd)
  have O4 := Lib.hid (own_below8 O3.out bd)
  clear bd Wd R2 B2 D3 O3 T2
  refine wpAnyL_take (i := 0) (v := .agg #[.int .i64 c, .slice va ts.length vc]) rfl (by kernel_rfl) (by kernel_rfl) (by kernel_rfl) (by kernel_rfl) (fun _ _ _ h => h) (Or.inl ⟨by rfl, ?yda0⟩) hS ?_
  case yda0 => intro w hSw; obtain ⟨⟨j0, j1⟩, _⟩ := blk2 hSw; go_simp
  simp only [Act.put, List.getElem_toArray, List.getElem_cons_succ, List.getElem_cons_zero, List.setIfInBounds_toArray, List.set_cons_zero, List.set_cons_succ]
  refine wpAnyL_take (i := 1) (v := .pointer (some ⟨w.heap.size + 1, 0, Option.none⟩)) rfl (by kernel_rfl) (by kernel_rfl) (by kernel_rfl) (by kernel_rfl) (fun _ _ _ h => h) (Or.inl ⟨by rfl, ?yda1⟩) hS ?_
  case yda1 => intro w hSw; go_simp
  simp only [Act.put, List.getElem_toArray, List.getElem_cons_succ, List.getElem_cons_zero, List.setIfInBounds_toArray, List.set_cons_zero, List.set_cons_succ]
  refine wpAnyL_ready (rs := [2]) (by kernel_rfl) (by simp) ?_
  refine AllReadyL.cons rfl (fun K hK => ?_) AllReadyL.nil
  rw [if_pos (by rfl)]
  simp only [List.getElem_toArray, List.getElem_cons_succ, List.getElem_cons_zero]
  go_wp2_with fail
  refine (l9Draw_is (w.heap.size + 1) a len cap (w.heap.size + 1) _ D4.out).mono ?_
  rintro e w4 ⟨rs, u, rfl, hbs, hr5, d5, wr5⟩
  obtain ⟨ua, uc, rfl⟩ := ownShape hr5
  have P5 := Lib.hid hbs
  have RV5 : Hid (RV w4 w3.heap.size (.slice ua rs.length uc) rs) := by
    have := RV.ofOwn9 (k := rs.length) hr5 rfl (Nat.le_refl _)
    rwa [List.take_length] at this
  have hz5 := wr5.size
  have R5 := Lib.hid (heap_w8 R3.out wr5 (by omega))
  have O6 := Lib.hid (own_w8 O4.out wr5 (by omega))
  have B5 := Lib.hid (B3.out.trans (wr5.lowto (by omega) (by have := B3.out.size; omega)))
  have hw5 := wr5
  go_wp2_with fail
  have hS2 := heap_w8 hS hw5 (by omega)
  refine hK.out _ _ (fun _ => hS2) ?_
  clear hS hK
  have hS := hS2
  clear hS2
  clear hbs hr5 d5 wr5 hw5 R3 O4 B3 D4
  refine wpAnyL_ready (rs := [3]) (by kernel_rfl) (by simp) ?_
  refine AllReadyL.cons rfl (fun K hK => ?_) AllReadyL.nil
  rw [if_pos (by rfl)]
  simp only [List.getElem_toArray, List.getElem_cons_succ, List.getElem_cons_zero]
  obtain ⟨⟨e0, e1⟩, k0, k1⟩ := blk2 R5.out
  go_wp2_with fail
  have gS := two_set w4 w.heap.size (.int .i64 c) (.slice va ts.length vc)
  have hh := two_at (u := .int .i64 c) (v := .slice va ts.length vc) R5.out
  have hS2 := heap_g8 hS gS (fun e => by injection e with e; omega)
  refine hK.out _ _ (fun _ => hS2) ?_
  clear hS hK
  have hS := hS2
  clear hS2
  obtain ⟨w6, W6⟩ : ∃ w6, Hid (w6 = (w4.setCell ⟨w.heap.size, 0, Option.none⟩ (.int .i64 c)).setCell ⟨w.heap.size, 1, Option.none⟩ (.slice va ts.length vc)) := ⟨_, rfl⟩
  rw [← W6.out] at gS hh hS ⊢
  obtain ⟨⟨x0, x1⟩, _⟩ := blk2 hh
  have O9 := Lib.hid (own_g8 O6.out gS (fun k h1 h2 => by have := (O6.out.lt k h1).1; injection h2 with h2; omega))
  have RV9 := Lib.hid (RV5.out.g8 gS (by omega))
  have B9 := Lib.hid (low_g8 B5.out gS (Nat.le_refl _) (fun k h => by injection h with h; omega))
  clear gS hh W6 e0 e1 k0 k1 R5 O6 RV5 B5
  refine wpAnyL_ready (rs := [4]) (by kernel_rfl) (by simp) ?_
  refine AllReadyL.cons rfl (fun K hK => ?_) AllReadyL.nil
  rw [if_pos (by rfl)]
  simp only [List.getElem_toArray, List.getElem_cons_succ, List.getElem_cons_zero]
  go_wp2_with fail
  refine hK.out _ _ (fun e => absurd rfl e) ?_
  clear hK
  refine wpAnyL_done (by kernel_rfl) ?_ _
  clear hS
  go_wp2
  refine bodyPost_ret (v := .tuple #[.agg #[.int .i64 c, .slice va ts.length vc], .slice ua rs.length uc]) (by simp [results, Try.results6, go_sem, x0, x1]) rfl ⟨c, ts, rs, _, _, rfl, P2.out, P5.out, ownMono8 (by omega) O9.out, RV9.out.low, B9.out⟩
set_option maxHeartbeats 4000000 in
set_option maxRecDepth 100000 in
theorem DrawInArr_is (a : Option Addr) (len cap : Nat) (w : World) (hlen : len ≤ 281474976710656) (hC : CodeIs w.heap.size w a len) : Calls Try.prog 18 #[.slice a len cap] w (DrawnI9 w) := by
  have HC := Lib.hid hC
  clear hC
  have b0 := alloc_below w (.cells #[.int .i64 0, .slice Option.none 0 0] 26)
  have hs0 : (w.alloc (.cells #[.int .i64 0, .slice Option.none 0 0] 26)).heap.size = w.heap.size + 1 := by simp
  have R0 := Lib.hid (heap_last w (.cells #[.int .i64 0, .slice Option.none 0 0] 26))
  have C1 := Lib.hid ((HC.out.later b0).mono (show w.heap.size ≤ w.heap.size + 1 by omega))
  have B0 := Lib.hid b0
  clear b0
  go_enter Try.func18, Try.ntmps18
  go_wp2_with fail
  refine (l1New (w.heap.size + 1) a len cap _ hlen C1.out).mono ?_
  rintro e w1 ⟨rfl, hcur, hb1⟩
  rw [hs0] at hcur hb1 ⊢
  have D1 : Hid (Dw (w.heap.size + 1) a len cap (w.heap.size + 1) w1) := ⟨hlen, Nat.le_refl _, C1.out.later hb1, hcur⟩
  have R1 := Lib.hid (heap_n8 R0.out hb1 (by omega))
  have B1 := Lib.hid (B0.out.trans (hb1.mono (by omega)))
  have hz1 : w.heap.size + 1 + 1 ≤ w1.heap.size := D1.out.cur.lt
  clear hcur hb1 R0 B0 C1 HC hs0
  go_wp2_with fail
  refine (l8Any_is (w.heap.size + 1) a len cap (w.heap.size + 1) _ D1.out).mono ?_
  rintro e w2 ⟨c, ts, v, rfl, hp2, own2, d2, wr2⟩
  obtain ⟨va, vc, rfl⟩ := ownShape own2
  have P2 := Lib.hid hp2
  have O2 := Lib.hid own2
  have D2 := Lib.hid d2
  have hz2 := wr2.size
  have ba := alloc_below w2 (.cells #[.int .i64 c, .slice va ts.length vc] 26)
  have R2 := Lib.hid (heap_b8 (heap_w8 R1.out wr2 (by omega)) ba)
  have B2 := Lib.hid ((B1.out.trans (wr2.lowto (by omega) (by omega))).trans (ba.mono (by omega)))
  have T2 := Lib.hid (heap_last w2 (.cells #[.int .i64 c, .slice va ts.length vc] 26))
  have D3 := Lib.hid (D2.out.later ba)
  have O3 := Lib.hid (own_below8 O2.out ba)
  clear hp2 own2 d2 wr2 R1 B1 D1 D2 O2 ba
  go_wp2_with fail
  refine (l9Any_is (w.heap.size + 1) a len cap (w.heap.size + 1) _ D3.out).mono ?_
  rintro e w3 ⟨rs, u, rfl, hbs, hr3, d3, wr3⟩
  obtain ⟨ua, uc, rfl⟩ := hr3.shape
  have hz3 := wr3.size
  rw [World.size_alloc] at hz3
  have P3 := Lib.hid hbs
  have RV3 := Lib.hid (hr3.same (lo' := w2.heap.size) (by simp) (Keeps.refl _ _) (Nat.le_refl _))
  have R3 := Lib.hid (heap_w8 R2.out wr3 (by omega))
  have T3 := Lib.hid (heap_w8 T2.out wr3 (by omega))
  have B3 := Lib.hid (B2.out.trans (wr3.lowto (by omega) B2.out.size))
  have D4 := Lib.hid d3
  have O4 := Lib.hid (own_w8 O3.out wr3 (by omega))
  clear hbs hr3 d3 wr3 R2 T2 B2 D3 O3
  go_wp2_with fail
  have bd : Below w3.heap.size w3 w3.drew := (Below.refl _ w3).drew
  obtain ⟨w4, Wd⟩ : ∃ w4, Hid (w4 = w3.drew) := ⟨_, rfl⟩
  have hS : w4.heap[w2.heap.size]? = some (.cells #[.int .i64 c, .slice va ts.length vc] 26) := by rw [Wd.out]; exact heap_b8 T3.out bd
  refine wp_region_last (fun w' => w'.heap[w2.heap.size]? = some (.cells #[.int .i64 c, .slice va ts.length vc] 26)) 7 (by kernel_rfl) ?_
  rw [← Wd.out] at bd ⊢
  have hz4 := bd.size
  have R4 := Lib.hid (heap_b8 R3.out bd)
  have B4 := Lib.hid (B3.out.trans (bd.mono B3.out.size))
  have D5 := Lib.hid (D4.out.later bd)
  have O5 := Lib.hid (own_below8 O4.out bd)
  have RV4 := Lib.hid (RV3.out.later bd)
  clear bd Wd R3 B3 D4 O4 RV3 T3
  refine wpAnyL_take (i := 0) (v := .agg #[.int .i64 c, .slice va ts.length vc]) rfl (by kernel_rfl) (by kernel_rfl) (by kernel_rfl) (by kernel_rfl) (fun _ _ _ h => h) (Or.inl ⟨by rfl, ?yia0⟩) hS ?_
  case yia0 => intro w hSw; obtain ⟨⟨j0, j1⟩, _⟩ := blk2 hSw; go_simp
  simp only [Act.put, List.getElem_toArray, List.getElem_cons_succ, List.getElem_cons_zero, List.setIfInBounds_toArray, List.set_cons_zero, List.set_cons_succ]
  refine wpAnyL_take (i := 1) (v := .slice ua rs.length uc) rfl (by kernel_rfl) (by kernel_rfl) (by kernel_rfl) (by kernel_rfl) (fun _ _ _ h => h) (Or.inl ⟨by rfl, ?yia1⟩) hS ?_
  case yia1 => intro w hSw; go_simp
  simp only [Act.put, List.getElem_toArray, List.getElem_cons_succ, List.getElem_cons_zero, List.setIfInBounds_toArray, List.set_cons_zero, List.set_cons_succ]
  refine wpAnyL_take (i := 2) (v := .pointer (some ⟨w.heap.size + 1, 0, Option.none⟩)) rfl (by kernel_rfl) (by kernel_rfl) (by kernel_rfl) (by kernel_rfl) (fun _ _ _ h => h) (Or.inl ⟨by rfl, ?yia2⟩) hS ?_
  case yia2 => intro w hSw; go_simp
  simp only [Act.put, List.getElem_toArray, List.getElem_cons_succ, List.getElem_cons_zero, List.setIfInBounds_toArray, List.set_cons_zero, List.set_cons_succ]
  have ba := alloc_below w4 (.cells #[.int .i64 8, .int .i64 16, .int .i64 30, .int .i64 1, .int .i64 0] 3)
  have hbw4 := D5.out.cur.lt
  refine wpAnyL_ready (rs := [3]) (by kernel_rfl) (by simp) ?_
  refine AllReadyL.cons rfl (fun K hK => ?_) AllReadyL.nil
  rw [if_pos (by rfl)]
  simp only [List.getElem_toArray, List.getElem_cons_succ, List.getElem_cons_zero]
  go_wp2_with fail
  have hS2 := heap_b8 hS ba
  refine hK.out _ _ (fun _ => hS2) ?_
  clear hS hK
  have hS := hS2
  clear hS2
  refine wpAnyL_ready (rs := [4]) (by kernel_rfl) (by simp) ?_
  refine AllReadyL.cons rfl (fun K hK => ?_) AllReadyL.nil
  rw [if_pos (by rfl)]
  simp only [List.getElem_toArray, List.getElem_cons_succ, List.getElem_cons_zero]
  go_wp2_with fail
  refine (l1Int_is (w.heap.size + 1) a len cap (w.heap.size + 1) w4.heap.size 5 5 (fun z => 0 ≤ z ∧ z ≤ 30) _ (D5.out.later ba) (by omega) (by omega) (by omega) (fun j hj => ints_cell w4 [8, 16, 30, 1, 0] _ (by decide) _ rfl j hj)).mono ?_
  rintro e w5 ⟨sz, rfl, hsz, d5, wr5⟩
  have U5 : Wr (w.heap.size + 1) w4 w5 := (Wr.of_below ba).trans wr5
  have hw5 := wr5
  have hz5 := U5.size
  have R5 := Lib.hid (heap_w8 R4.out U5 (by omega))
  have O6 := Lib.hid (own_w8 O5.out U5 (by omega))
  have RV5 := Lib.hid (RV4.out.same (Nat.le_refl _) (fun a v hl hc => U5.keeps a v (by omega) hc) U5.size)
  have B5 := Lib.hid (B4.out.trans (U5.lowto (by omega) (by have := B4.out.size; omega)))
  go_wp2_with fail
  have hS2 := heap_w8 hS hw5 (by omega)
  refine hK.out _ _ (fun _ => hS2) ?_
  clear hS hK
  have hS := hS2
  clear hS2
  clear hsz d5 wr5 hw5 U5 ba R4 O5 RV4 B4 D5
  refine wpAnyL_ready (rs := [5]) (by kernel_rfl) (by simp) ?_
  refine AllReadyL.cons rfl (fun K hK => ?_) AllReadyL.nil
  rw [if_pos (by rfl)]
  simp only [List.getElem_toArray, List.getElem_cons_succ, List.getElem_cons_zero]
  obtain ⟨⟨e0, e1⟩, k0, k1⟩ := blk2 R5.out
  go_wp2_with fail
  have gS := two_set w5 w.heap.size (.int .i64 c) (.slice va ts.length vc)
  have hh := two_at (u := .int .i64 c) (v := .slice va ts.length vc) R5.out
  have hS2 := heap_g8 hS gS (fun e => by injection e with e; omega)
  refine hK.out _ _ (fun _ => hS2) ?_
  clear hS hK
  have hS := hS2
  clear hS2
  obtain ⟨w6, W6⟩ : ∃ w6, Hid (w6 = (w5.setCell ⟨w.heap.size, 0, Option.none⟩ (.int .i64 c)).setCell ⟨w.heap.size, 1, Option.none⟩ (.slice va ts.length vc)) := ⟨_, rfl⟩
  rw [← W6.out] at gS hh hS ⊢
  obtain ⟨⟨x0, x1⟩, _⟩ := blk2 hh
  have O9 := Lib.hid (own_g8 O6.out gS (fun k h1 h2 => by have := (O6.out.lt k h1).1; injection h2 with h2; omega))
  have RV9 := Lib.hid (RV5.out.g8 gS (by omega))
  have B9 := Lib.hid (low_g8 B5.out gS (Nat.le_refl _) (fun k h => by injection h with h; omega))
  clear gS hh W6 e0 e1 k0 k1 R5 O6 RV5 B5
  refine wpAnyL_ready (rs := [6]) (by kernel_rfl) (by simp) ?_
  refine AllReadyL.cons rfl (fun K hK => ?_) AllReadyL.nil
  rw [if_pos (by rfl)]
  simp only [List.getElem_toArray, List.getElem_cons_succ, List.getElem_cons_zero]
  go_wp2_with fail
  have hS2 := hS
  refine hK.out _ _ (fun _ => hS2) ?_
  clear hS hK
  have hS := hS2
  clear hS2
  refine wpAnyL_ready (rs := [7]) (by kernel_rfl) (by simp) ?_
  refine AllReadyL.cons rfl (fun K hK => ?_) AllReadyL.nil
  rw [if_pos (by rfl)]
  simp only [List.getElem_toArray, List.getElem_cons_succ, List.getElem_cons_zero]
  go_wp2_with fail
  refine hK.out _ _ (fun e => absurd rfl e) ?_
  clear hK
  refine wpAnyL_done (by kernel_rfl) ?_ _
  clear hS
  go_wp2
  refine bodyPost_ret (v := .tuple #[.agg #[.int .i64 c, .slice va ts.length vc], .slice ua rs.length uc, .int .i64 sz]) (by simp [results, Try.results18, go_sem, x0, x1]) rfl ⟨c, ts, rs, _, _, sz, rfl, P2.out, P3.out, ownMono8 (by omega) O9.out, RV9.out.low, B9.out⟩
end Go.Proofs.Ythecjaonbmefgaa
/-
  Boxes: what is right; slices.ContainsFunc over ranges; hasRng, hasWays, rngEndOk, BoxOk of the landed code; l9At of the specification.
-/
namespace Go.Proofs.Ythecjaonbmefgaa
open Go.RowKit Go.Lib Go.Shelf
set_option linter.unusedSimpArgs false
set_option linter.unusedVariables false

def inEnd9 (n : Int) : Bool := decide (-10000 ≤ n) && decide (n ≤ 10000)
def hasR9 (rs : List RG) (s : ByteArray) : Bool := rs.any fun r => decide (r.s = s)
def rgOk9 (pre : List RG) (t : RG) : Bool := nameOk t.s.data.toList && inEnd9 t.lo && inEnd9 t.hi && !(hasR9 pre t.s)
def boxGo9 (rs : List RG) : Nat → Nat → Bool
  | _, 0 => true
  | k, n + 1 => (match rs[k]? with | some t => rgOk9 (rs.take k) t | none => true) && boxGo9 rs (k + 1) n
def boxOk9 (rs : List RG) : Bool := decide (rs.length ≤ 8) && boxGo9 rs 0 rs.length
def waysOk9 (rs : List RG) : Bool := boxOk9 rs && !(rs.any fun r => decide (r.lo > r.hi))
theorem boxGo9_at {rs : List RG} {k : Nat} {t : RG} (h : rs[k]? = some t) : boxGo9 rs k (rs.length - k) = (rgOk9 (rs.take k) t && boxGo9 rs (k + 1) (rs.length - (k + 1))) := by
  have hlt := (List.getElem?_eq_some_iff.1 h).1
  rw [show rs.length - k = (rs.length - (k + 1)) + 1 by omega, boxGo9, h]
theorem drop9 {ts : List RG} {k : Nat} {t : RG} (h : ts[k]? = some t) : ts.drop k = t :: ts.drop (k + 1) := by
  have hlt := (List.getElem?_eq_some_iff.1 h).1
  rw [List.drop_eq_getElem_cons hlt]; congr 1; rw [List.getElem?_eq_getElem hlt] at h; injection h
/-- Where the first one is that p says yes of. -/
def findR9 (p : RG → Bool) : List RG → Nat → Int
  | [], _ => -1
  | t :: r, k => if p t = true then (k : Int) else findR9 p r (k + 1)
theorem findR9_any (p : RG → Bool) : ∀ (l : List RG) (k : Nat), decide (findR9 p l k ≥ 0) = l.any p
  | [], _ => by simp [findR9]
  | t :: r, k => by
    unfold findR9
    by_cases h : p t = true
    · rw [if_pos h]; simp [h]
    · rw [if_neg h, findR9_any p r (k + 1)]; simp [h]
set_option maxHeartbeats 1000000 in
theorem IndexFunc9 (rs : List RG) (hn : rs.length ≤ 1000000000) (p : RG → Bool) (kf : Nat) (caps : Array Value) (hent : ∀ (args : Array Value) (w : World), (callFunc kf args).run Try.prog w = .ok (.enter kf args) w) (J : World → Prop) (hon : ∀ w w', J w → Below w.heap.size w w' → J w')
    (hcall : ∀ w, J w → ∀ t : RG, Calls Try.prog kf (#[.agg #[.string t.s, .int .i64 t.lo, .int .i64 t.hi]] ++ caps) w fun e w' => e = .returned (.bool (p t)) ∧ Below w.heap.size w w') (v : Value) (w : World) (hJ : J w) (hr : RV w 0 v rs) :
    Calls Try.prog 64 #[v, .func (.func kf) #[] caps] w fun e w' => e = .returned (.int .i64 (findR9 p rs 0)) ∧ Below w.heap.size w w' := by
  obtain ⟨ao, cap, rfl, _, hr⟩ := hr
  have Hr := Lib.hid hr
  have HJ := Lib.hid hJ
  have HO := Lib.hid hon
  have HC := Lib.hid hcall
  clear hr hJ hon hcall
  go_enter Try.func64, Try.ntmps64
  go_wp2
  go_loopw [8] (fun i wr => ∃ k : Nat, k ≤ rs.length ∧ i = .int .i64 k ∧ Hid (findR9 p rs 0 = findR9 p (rs.drop k) k) ∧ Hid (Below w.heap.size w wr)) (fun i _ => rs.length - (RowKit.intOf i).toNat)
  case atStart => exact ⟨0, by omega, rfl, rfl, Below.refl _ _⟩
  case round =>
    obtain ⟨k, hk, rfl, hg, HB⟩ := hrel
    by_cases hlt : k < rs.length
    · have hltI : (k : Int) < (rs.length : Int) := by omega
      obtain ⟨t, ht⟩ : ∃ t, rs[k]? = some t := ⟨rs[k], List.getElem?_eq_getElem hlt⟩
      rcases Hr.out with hr | ⟨g, off, rfl, _, gl, hc⟩
      · subst hr; simp at hlt
      have A0 := (HB.out.cell (p := ⟨g, off + k * 3, Option.none⟩) gl).trans (hc k t ht).1
      have A1 := (HB.out.cell (p := ⟨g, off + k * 3 + 1, Option.none⟩) gl).trans (hc k t ht).2.1
      have A2 := (HB.out.cell (p := ⟨g, off + k * 3 + 2, Option.none⟩) gl).trans (hc k t ht).2.2
      have hd : Hid (rs.drop k = t :: rs.drop (k + 1)) := drop9 ht
      have Jr := Lib.hid (HO.out _ _ HJ.out HB.out)
      clear hc ht
      cases hp : p t with
      | true =>
        have R : Hid (findR9 p rs 0 = (k : Int)) := by show findR9 p rs 0 = (k : Int); rw [hg.out, hd.out, findR9, if_pos hp]
        have HP := Lib.hid hp
        clear hp
        go_wp2_with fail
        refine (HC.out _ Jr.out t).mono ?_
        rintro e w1 ⟨rfl, hb1⟩
        rw [HP.out]
        have B1 := Lib.hid (HB.out.trans (hb1.mono HB.out.size))
        clear hb1 A0 A1 A2
        go_wp2
        go_ret
        exact retI R.out.symm B1.out
      | false =>
        have R : Hid (findR9 p rs 0 = findR9 p (rs.drop (k + 1)) (k + 1)) := by show findR9 p rs 0 = _; rw [hg.out, hd.out, findR9, if_neg (by simp [hp])]
        have HP := Lib.hid hp
        clear hp
        go_wp2_with fail
        refine (HC.out _ Jr.out t).mono ?_
        rintro e w1 ⟨rfl, hb1⟩
        rw [HP.out]
        have B1 := Lib.hid (HB.out.trans (hb1.mono HB.out.size))
        clear hb1 A0 A1 A2
        go_wp2
        go_roundw
        case rel => exact ⟨k + 1, by omega, by go_num, R.out, B1.out⟩
        case measure => simp [RowKit.intOf]; omega
    · have R : Hid (findR9 p rs 0 = -1) := by show findR9 p rs 0 = -1; rw [hg.out, List.drop_of_length_le (by omega)]; rfl
      go_wp2
      go_ret
      exact retI R.out.symm HB.out
theorem ContainsFunc9 (rs : List RG) (hn : rs.length ≤ 1000000000) (p : RG → Bool) (kf : Nat) (caps : Array Value) (hent : ∀ (args : Array Value) (w : World), (callFunc kf args).run Try.prog w = .ok (.enter kf args) w) (J : World → Prop) (hon : ∀ w w', J w → Below w.heap.size w w' → J w')
    (hcall : ∀ w, J w → ∀ t : RG, Calls Try.prog kf (#[.agg #[.string t.s, .int .i64 t.lo, .int .i64 t.hi]] ++ caps) w fun e w' => e = .returned (.bool (p t)) ∧ Below w.heap.size w w') (v : Value) (w : World) (hJ : J w) (hr : RV w 0 v rs) :
    Calls Try.prog 50 #[v, .func (.func kf) #[] caps] w fun e w' => e = .returned (.bool (rs.any p)) ∧ Below w.heap.size w w' := by
  have HX := Lib.hid (IndexFunc9 rs hn p kf caps hent J hon hcall v w hJ hr)
  clear hcall hJ hr hon hent
  go_enter Try.func50, Try.ntmps50
  go_wp2_with fail
  refine HX.out.mono ?_
  rintro e w1 ⟨rfl, hb1⟩
  have HB := Lib.hid hb1
  clear hb1
  go_wp2
  go_ret
  exact ⟨ret_bool (findR9_any p rs 0), HB.out⟩
theorem belowD9 {B : Nat} {w w' : World} (h : Below B w w') (n : Nat) : Below B w (w'.drewN n) := ⟨h.os, h.tape, h.output, h.size, h.block⟩
theorem enters_hasRng (args : Array Value) (w : World) : (callFunc 54 args).run Try.prog w = .ok (.enter 54 args) w := enters_of Try.func54 (by kernel_rfl) rfl args w
theorem enters_hasWays (args : Array Value) (w : World) : (callFunc 51 args).run Try.prog w = .ok (.enter 51 args) w := enters_of Try.func51 (by kernel_rfl) rfl args w
theorem hasRng1_is (s : ByteArray) (b : Nat) (w : World) (hw : w.cell? ⟨b, 0, Option.none⟩ = some (.string s)) (t : RG) :
    Calls Try.prog 54 #[.agg #[.string t.s, .int .i64 t.lo, .int .i64 t.hi], .pointer (some ⟨b, 0, Option.none⟩)] w fun e w' => e = .returned (.bool (decide (t.s = s))) ∧ Below w.heap.size w w' := by
  have q := keeps (alloc_below w (.cells #[.string t.s, .int .i64 t.lo, .int .i64 t.hi] 33)) hw
  have B := Lib.hid (alloc_below w (.cells #[.string t.s, .int .i64 t.lo, .int .i64 t.hi] 33))
  by_cases he : t.s = s
  · subst he
    go_enter Try.func54, Try.ntmps54
    go_wp2
    go_ret
    exact ⟨ret_bool (by simp), B.out⟩
  · have hne := str_ne he
    have R : Hid (decide (t.s = s) = false) := decide_eq_false he
    clear he
    go_enter Try.func54, Try.ntmps54
    go_wp2
    go_ret
    exact ⟨ret_bool R.out.symm, B.out⟩
theorem hasWays1_is (w : World) (t : RG) :
    Calls Try.prog 51 #[.agg #[.string t.s, .int .i64 t.lo, .int .i64 t.hi]] w fun e w' => e = .returned (.bool (decide (t.lo > t.hi))) ∧ Below w.heap.size w w' := by
  have B := Lib.hid (alloc_below w (.cells #[.string t.s, .int .i64 t.lo, .int .i64 t.hi] 33))
  go_enter Try.func51, Try.ntmps51
  go_wp2
  go_ret
  exact ⟨rfl, B.out⟩
set_option maxHeartbeats 1000000 in
theorem hasRng_is (rs : List RG) (hn : rs.length ≤ 1000000000) (s : ByteArray) (v : Value) (w : World) (hr : RV w 0 v rs) (b : Bool) (hb : hasR9 rs s = b) :
    Calls Try.prog 34 #[v, .string s] w fun e w' => e = .returned (.bool b) ∧ Below w.heap.size w w' := by
  subst hb
  have B := Lib.hid (alloc_below w (.cells #[.string s] 9))
  have HX := Lib.hid (ContainsFunc9 rs hn (fun r => decide (r.s = s)) 54 #[.pointer (some ⟨w.heap.size, 0, Option.none⟩)] enters_hasRng (fun W => W.cell? ⟨w.heap.size, 0, Option.none⟩ = some (.string s)) (fun W W' h hb => keeps hb h) (fun W h t => hasRng1_is s w.heap.size W h t) v (w.alloc (.cells #[.string s] 9)) (box_cell (Below.refl _ _) rfl) (hr.later B.out))
  clear hr
  go_enter Try.func34, Try.ntmps34
  go_wp2_with fail
  refine HX.out.mono ?_
  rintro e w1 ⟨rfl, hb1⟩
  have HB := Lib.hid (B.out.trans (hb1.mono B.out.size))
  clear hb1 HX
  go_wp2
  go_ret
  exact ⟨rfl, HB.out⟩
theorem rngEndOk_is (n : Int) (v : Bool) (hv : inEnd9 n = v) (w : World) : Calls Try.prog 33 #[.int .i64 n] w fun e w' => e = .returned (.bool v) ∧ w = w' := by
  subst hv
  by_cases h1 : -10000 ≤ n
  · by_cases h2 : n ≤ 10000
    all_goals
      go_enter Try.func33, Try.ntmps33
      go_wp2
      go_ret
      exact ⟨ret_bool (by simp [inEnd9, h1, h2]), rfl⟩
  · go_enter Try.func33, Try.ntmps33
    go_wp2
    go_ret
    exact ⟨ret_bool (by have h0 : decide ((-10000 : Int) ≤ n) = false := decide_eq_false (by omega); unfold inEnd9; rw [h0]; rfl), rfl⟩
end Go.Proofs.Ythecjaonbmefgaa
