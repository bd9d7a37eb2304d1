/-
  Texts in one: MtDraw, MtDrawM.
-/
import Derived.Test.YtjdpddcnogdekaaGreatP38ofMx
import Derived.Test.YtjdpddcnogdekaaGreatMtRest
/-
  A drawn sum of one name.
-/
namespace Go.Proofs.YtjdpddcnogdekaaGreat
open Go.RowKit Go.Lib
set_option linter.unusedSimpArgs false
set_option linter.unusedVariables false

theorem sub8_nil : Sub8 3 [] := ⟨by simp [Asc8], by simp, by simp⟩
theorem sub8_one {n : Int} (h : -2 ≤ n ∧ n ≤ 4 ∧ n ≠ 0) : Sub8 3 [⟨⟨#[105]⟩, n⟩] := ((show Sub8 0 [] from ⟨by simp [Asc8], by simp, by simp⟩).snoc (s := ⟨#[105]⟩) rfl h).more.more
set_option maxHeartbeats 4000000 in
set_option maxRecDepth 100000 in
theorem l8One_is (B : Nat) (a : Option Addr) (len cap b : Nat) (w : World) (d : Dw B a len cap b w) :
    Calls Tryz.prog 24 #[.pointer (some ⟨b, 0, none⟩)] w (DrawnT8 Small8 B a len cap b w) := by
  have hbz : b < w.heap.size := d.cur.lt
  have bz := alloc_below w (.cells #[.int .i64 0, .slice Option.none 0 0] 26)
  have D0 := Lib.hid (d.later bz)
  have R0 := Lib.hid (heap_last w (.cells #[.int .i64 0, .slice Option.none 0 0] 26))
  have WR0 : Hid (Wr b w (w.alloc (.cells #[.int .i64 0, .slice Option.none 0 0] 26))) := Wr.of_below bz
  clear d bz
  go_enter Tryz.func24, Tryz.ntmps24
  go_wp2_with fail
  refine (l1Below_is B a len cap b 13 _ D0.out (by omega)).mono ?_
  rintro e w1 ⟨x, rfl, ⟨x0, x1⟩, d1, wr1⟩
  have hs1 : w.heap.size + 1 ≤ w1.heap.size := by have := wr1.size; rwa [World.size_alloc] at this
  have R1 := Lib.hid (heap_w8 R0.out wr1 (by omega))
  have D1 := Lib.hid d1
  have WR1 := Lib.hid (WR0.out.trans wr1)
  obtain ⟨cc, hcc⟩ : ∃ cc, x - 4 = cc := ⟨_, rfl⟩
  have HC : Hid (-4 ≤ cc ∧ cc ≤ 8) := show _ ∧ _ by omega
  obtain ⟨wA, hA⟩ : ∃ wA, wA = w1.alloc (.cells #[.int .i64 cc, .slice Option.none 0 0] 26) := ⟨_, rfl⟩
  have hsA : wA.heap.size = w1.heap.size + 1 := by rw [hA]; simp
  have bA : Below w1.heap.size w1 wA := hA ▸ alloc_below w1 _
  have TA : wA.heap[w1.heap.size]? = some (.cells #[.int .i64 cc, .slice Option.none 0 0] 26) := by rw [hA]; exact heap_last _ _
  have bI := alloc_below wA (.cells #[.int .i64 1, .int .i64 1, .int .i64 1, .int .i64 2, .int .i64 2, .int .i64 3, .int .i64 (-1), .int .i64 0] 3)
  have T2 := Lib.hid (heap_b8 TA bI)
  have R2 := Lib.hid (heap_b8 (heap_b8 R1.out bA) bI)
  have D2 := Lib.hid ((D1.out.later bA).later bI)
  have WR2 := Lib.hid ((WR1.out.trans (.of_below bA)).trans (.of_below bI))
  have hbw1 : b < w1.heap.size := d1.cur.lt
  clear d1 wr1 R0 D0 WR0 TA bI bA R1 D1 WR1
  go_wp2_with fail
  rw [← hA]
  refine (l1Int_is B a len cap b (w1.heap.size + 1) 8 8 (fun z => -2 ≤ z ∧ z ≤ 4) _ D2.out (by omega) (by omega) (by omega) (fun j hj => ints_cell wA [1, 1, 1, 2, 2, 3, -1, 0] _ (by decide) (w1.heap.size + 1) hsA j hj)).mono ?_
  rintro e w2 ⟨nn, rfl, hn, d3, wr3⟩
  have T3 := Lib.hid (heap_w8 T2.out wr3 (by omega))
  have R3 := Lib.hid (heap_w8 R2.out wr3 (by omega))
  have D3 := Lib.hid d3
  have WR3 := Lib.hid (WR2.out.trans wr3)
  have hs2 : w1.heap.size + 1 ≤ w2.heap.size := by have := wr3.size; simp only [World.size_alloc, hsA] at this; omega
  clear d3 wr3 T2 R2 D2 WR2 hA hsA
  by_cases h0 : nn = 0
  ·
    subst h0
    obtain ⟨⟨y0, y1⟩, _⟩ := blk2 T3.out
    obtain ⟨⟨z0, z1⟩, f0, f1⟩ := blk2 R3.out
    go_wp2
    clear z0 z1
    have g0 := Go.heap_setCell_same _ _ 0 _ _ (.int .i64 cc) R3.out
    have g1 := Go.heap_setCell_same _ _ 1 _ _ (.slice Option.none 0 0) g0
    obtain ⟨⟨z0, z1⟩, _⟩ := blk2 g1
    have FZ : Below w.heap.size w2 ((w2.setCell ⟨w.heap.size, 0, Option.none⟩ (.int .i64 cc)).setCell ⟨w.heap.size, 1, Option.none⟩ (.slice Option.none 0 0)) := ((Below.refl w.heap.size w2).setCell (p := ⟨w.heap.size, 0, Option.none⟩) (Nat.le_refl _) _).setCell (p := ⟨w.heap.size, 1, Option.none⟩) (Nat.le_refl _) _
    refine bodyPost_ret (v := .agg #[.int .i64 cc, .slice Option.none 0 0]) (by simp [results, Tryz.results24, go_sem, z0, z1]) rfl ⟨cc, [], .slice Option.none 0 0, rfl, ⟨HC.out, sub8_nil⟩, ?_, D3.out.below8 FZ hbz, WR3.out.below8 FZ (Nat.le_refl _)⟩
    exact World.ownsRow_nil _ _ _ _
  ·
    obtain ⟨wC, hC⟩ : ∃ wC, wC = w2.alloc (.cells #[.string ⟨#[105]⟩, .int .i64 nn] 70) := ⟨_, rfl⟩
    have bC : Below w2.heap.size w2 wC := hC ▸ alloc_below w2 _
    have av : AV wC 0 (.slice (some ⟨w2.heap.size, 0, Option.none⟩) 1 1) [⟨⟨#[105]⟩, nn⟩] := by rw [hC]; exact one11 (t := ⟨⟨#[105]⟩, nn⟩) (heap_last _ _)
    obtain ⟨v', w8, hrun, hown, hgr⟩ := appT11 (ts := [⟨⟨#[105]⟩, nn⟩]) (World.ownsRow_nil wC w2.heap.size 70 2) bC.size av (by simp) 24
    rw [hC] at hrun
    obtain ⟨a8, c8, rfl⟩ := ownShape11 hown
    have F8 : Below w2.heap.size w2 w8 := bC.grown hgr bC.size (fun k hk => by cases hk)
    obtain ⟨w9, W9⟩ : ∃ w9, Hid (w9 = w8.setCell ⟨w1.heap.size, 1, Option.none⟩ (.slice a8 1 c8)) := ⟨_, rfl⟩
    have T8 := heap_b8 T3.out F8
    have R8 := heap_b8 R3.out F8
    have T9 : w9.heap[w1.heap.size]? = some (.cells #[.int .i64 cc, .slice a8 1 c8] 26) := by rw [W9.out]; exact Go.heap_setCell_same _ _ 1 _ _ (.slice a8 1 c8) T8
    have R9 : Hid (w9.heap[w.heap.size]? = some (.cells #[.int .i64 0, .slice Option.none 0 0] 26)) := show _ = _ by rw [W9.out]; exact (Below.heap_setCell _ _ _ _ (by show w.heap.size ≠ w1.heap.size; omega)).trans R8
    have O9 : Hid (w9.ownsRow w2.heap.size 70 2 (.slice a8 1 c8) 1 (acells [⟨⟨#[105]⟩, nn⟩])) := show World.ownsRow _ _ _ _ _ _ _ by rw [W9.out]; exact own_later8 hown (fun g _ hg _ => Below.heap_setCell _ _ _ _ (by show g ≠ w1.heap.size; omega))
    have B9 : Below w1.heap.size w8 w9 := by rw [W9.out]; exact (Below.refl w1.heap.size w8).setCell (p := ⟨w1.heap.size, 1, Option.none⟩) (Nat.le_refl _) _
    have D9 := Lib.hid ((D3.out.later F8).below8 B9 hbw1)
    have WR9 := Lib.hid ((WR3.out.trans (.of_below F8)).below8 B9 (by omega))
    obtain ⟨⟨y0, y1⟩, _⟩ := blk2 T3.out
    obtain ⟨⟨e0, e1⟩, k0, k1⟩ := blk2 T8
    obtain ⟨⟨z0, z1⟩, f0, f1⟩ := blk2 R9.out
    obtain ⟨⟨x2, x3⟩, _⟩ := blk2 T9
    have h0b : (nn != 0) = true := by simp [h0]
    rw [W9.out] at z0 z1 f0 f1 x2 x3
    clear hown hgr F8 T8 R8 T9 B9 bC av hC
    go_wp2_with (at_builtin; refine wpList_app11 rfl _ _ 24 _ _ _ rfl rfl rfl hrun ?_)
    rw [← W9.out]
    clear z0 z1
    have g0 := Go.heap_setCell_same _ _ 0 _ _ (.int .i64 cc) R9.out
    have g1 := Go.heap_setCell_same _ _ 1 _ _ (.slice a8 1 c8) g0
    obtain ⟨⟨z0, z1⟩, _⟩ := blk2 g1
    have FZ : Below w.heap.size w9 ((w9.setCell ⟨w.heap.size, 0, Option.none⟩ (.int .i64 cc)).setCell ⟨w.heap.size, 1, Option.none⟩ (.slice a8 1 c8)) := ((Below.refl w.heap.size w9).setCell (p := ⟨w.heap.size, 0, Option.none⟩) (Nat.le_refl _) _).setCell (p := ⟨w.heap.size, 1, Option.none⟩) (Nat.le_refl _) _
    refine bodyPost_ret (v := .agg #[.int .i64 cc, .slice a8 1 c8]) (by simp [results, Tryz.results24, go_sem, z0, z1]) rfl ⟨cc, [⟨⟨#[105]⟩, nn⟩], .slice a8 1 c8, rfl, ⟨HC.out, sub8_one ⟨hn.1, hn.2, h0⟩⟩, ?_, D9.out.below8 FZ hbz, WR9.out.below8 FZ (Nat.le_refl _)⟩
    exact ownMono8 (by omega) (own_later8 O9.out fun g _ hg _ => by
      have hne : g ≠ w.heap.size := by omega
      exact (Below.heap_setCell _ _ _ _ hne).trans (Below.heap_setCell _ _ _ _ hne))
end Go.Proofs.YtjdpddcnogdekaaGreat
/-
  What FnMeets and FnDists draw.
-/
namespace Go.Proofs.YtjdpddcnogdekaaGreat
open Go.RowKit Go.Lib
set_option linter.unusedSimpArgs false
set_option linter.unusedVariables false

structure MS11 (w0 : World) (b p6 p7 : Nat) (a : Option Addr) (len cap : Nat) (c : Int) (v : Value) (ts : List AR) (d : Int) (u : Value) (us : List AR) (W : World) : Prop where
  o1 : W.ownsRow (b + 1) 70 2 v ts.length (acells ts)
  o2 : W.ownsRow (b + 1) 70 2 u us.length (acells us)
  h6 : W.heap[p6]? = some (.cells #[.int .i64 c, v] 26)
  h7 : W.heap[p7]? = some (.cells #[.int .i64 d, u] 26)
  r2 : W.heap[w0.heap.size]? = some (.cells #[.int .i64 0, .slice Option.none 0 0] 26)
  r3 : W.heap[w0.heap.size + 1]? = some (.cells #[.int .i64 0, .slice Option.none 0 0] 26)
  dw : Dw b a len cap b W
  low : Below w0.heap.size w0 W
  p1 : Small8 c ts
  p2 : Small8 d us
  hb : b = w0.heap.size + 1 + 1
  hb6 : b < p6
  hb7 : p6 < p7
theorem MS11.wr {w0 W W' : World} {b p6 p7 : Nat} {a : Option Addr} {len cap : Nat} {c d : Int} {v u : Value} {ts us : List AR} (h : MS11 w0 b p6 p7 a len cap c v ts d u us W) (hw : Wr b W W') (hd : Dw b a len cap b W') : MS11 w0 b p6 p7 a len cap c v ts d u us W' := by
  have e1 := h.hb; have e2 := h.hb6; have e3 := h.hb7
  exact ⟨own_w8 h.o1 hw (Nat.lt_succ_self _), own_w8 h.o2 hw (Nat.lt_succ_self _), heap_w8 h.h6 hw (by omega), heap_w8 h.h7 hw (by omega), heap_w8 h.r2 hw (by omega), heap_w8 h.r3 hw (by omega), hd, h.low.trans (hw.lowto (by omega) h.low.size), h.p1, h.p2, h.hb, h.hb6, h.hb7⟩
theorem MS11.later {w0 W W' : World} {b p6 p7 : Nat} {a : Option Addr} {len cap : Nat} {c d : Int} {v u : Value} {ts us : List AR} (h : MS11 w0 b p6 p7 a len cap c v ts d u us W) (hb : Below W.heap.size W W') : MS11 w0 b p6 p7 a len cap c v ts d u us W' :=
  h.wr (.of_below hb) (h.dw.later hb)
theorem own_box11 {W : World} {p D n : Nat} {v y z : Value} {xs : List Value} {x : Array Value} (h : W.ownsRow D 70 2 v n xs) (hp : W.heap[p]? = some (.cells x 26)) : ((W.setCell ⟨p, 0, Option.none⟩ y).setCell ⟨p, 1, Option.none⟩ z).ownsRow D 70 2 v n xs :=
  own_later8 h fun g _ _ hh => by
    have hne : g ≠ p := ne_types11 hh hp
    exact (Below.heap_setCell _ _ _ _ hne).trans (Below.heap_setCell _ _ _ _ hne)
theorem heap_box11 {W : World} {p q : Nat} {y z : Value} {x : Obj} (h : W.heap[q]? = some x) (hne : q ≠ p) : ((W.setCell ⟨p, 0, Option.none⟩ y).setCell ⟨p, 1, Option.none⟩ z).heap[q]? = some x :=
  ((Below.heap_setCell _ _ _ _ hne).trans (Below.heap_setCell _ _ _ _ hne)).trans h
theorem low_box11 {n p : Nat} (W : World) (y z : Value) (h : n ≤ p) : Below n W ((W.setCell ⟨p, 0, Option.none⟩ y).setCell ⟨p, 1, Option.none⟩ z) :=
  ((Below.refl n W).setCell (p := ⟨p, 0, Option.none⟩) h _).setCell (p := ⟨p, 1, Option.none⟩) h _
theorem MS11.set6 {w0 W : World} {b p6 p7 : Nat} {a : Option Addr} {len cap : Nat} {c d : Int} {v u : Value} {ts us : List AR} (h : MS11 w0 b p6 p7 a len cap c v ts d u us W) {c2 : Int} {v2 : Value} {ts2 : List AR} (ho : W.ownsRow (b + 1) 70 2 v2 ts2.length (acells ts2)) (hp : Small8 c2 ts2) :
    MS11 w0 b p6 p7 a len cap c2 v2 ts2 d u us ((W.setCell ⟨p6, 0, Option.none⟩ (.int .i64 c2)).setCell ⟨p6, 1, Option.none⟩ v2) := by
  have e1 := h.hb; have e2 := h.hb6; have e3 := h.hb7
  exact ⟨own_box11 ho h.h6, own_box11 h.o2 h.h6, two_at h.h6, heap_box11 h.h7 (by omega), heap_box11 h.r2 (by omega), heap_box11 h.r3 (by omega), h.dw.below8 (low_box11 (n := p6) W _ _ (Nat.le_refl _)) e2, h.low.trans (low_box11 W _ _ (by omega)), hp, h.p2, h.hb, h.hb6, h.hb7⟩
theorem MS11.set7 {w0 W : World} {b p6 p7 : Nat} {a : Option Addr} {len cap : Nat} {c d : Int} {v u : Value} {ts us : List AR} (h : MS11 w0 b p6 p7 a len cap c v ts d u us W) {d2 : Int} {u2 : Value} {us2 : List AR} (ho : W.ownsRow (b + 1) 70 2 u2 us2.length (acells us2)) (hp : Small8 d2 us2) :
    MS11 w0 b p6 p7 a len cap c v ts d2 u2 us2 ((W.setCell ⟨p7, 0, Option.none⟩ (.int .i64 d2)).setCell ⟨p7, 1, Option.none⟩ u2) := by
  have e1 := h.hb; have e2 := h.hb6; have e3 := h.hb7
  exact ⟨own_box11 h.o1 h.h7, own_box11 ho h.h7, heap_box11 h.h6 (by omega), two_at h.h7, heap_box11 h.r2 (by omega), heap_box11 h.r3 (by omega), h.dw.below8 (low_box11 (n := p7) W _ _ (Nat.le_refl _)) (by omega), h.low.trans (low_box11 W _ _ (by omega)), h.p1, hp, h.hb, h.hb6, h.hb7⟩
def DrawnM11 (w : World) (e : Ending) (w' : World) : Prop := ∃ (c : Int) (ts : List AR) (d : Int) (us : List AR) (rs : List RG) (v v2 u : Value), e = .returned (.tuple #[.agg #[.int .i64 c, v], .agg #[.int .i64 d, v2], u]) ∧ Small8 c ts ∧ Small8 d us ∧ Bx9 3 rs ∧ w'.ownsRow w.heap.size 70 2 v ts.length (acells ts) ∧ w'.ownsRow w.heap.size 70 2 v2 us.length (acells us) ∧ w'.ownsRow w.heap.size 32 3 u rs.length (rcells8 rs) ∧ Below w.heap.size w w'
set_option maxHeartbeats 8000000 in
set_option maxRecDepth 100000 in
theorem DrawMeets_own (a : Option Addr) (len cap : Nat) (w : World) (hlen : len ≤ 281474976710656) (hC : CodeIs w.heap.size w a len) : Calls Tryz.prog 6 #[.slice a len cap] w (DrawnM11 w) := by
  obtain ⟨wA, hA⟩ : ∃ wA, wA = (w.alloc (.cells #[.int .i64 0, .slice Option.none 0 0] 26)).alloc (.cells #[.int .i64 0, .slice Option.none 0 0] 26) := ⟨_, rfl⟩
  obtain ⟨q0, q1⟩ := heap2t w (.cells #[.int .i64 0, .slice Option.none 0 0] 26) (.cells #[.int .i64 0, .slice Option.none 0 0] 26)
  have b0 : Below w.heap.size w wA := by rw [hA]; exact (alloc_below w _).alloc (by simp) _
  rw [← hA] at q0 q1
  have hs0 : wA.heap.size = w.heap.size + 1 + 1 := by rw [hA]; simp
  have R0 := Lib.hid (And.intro q0 q1)
  have C1 : Hid (CodeIs (w.heap.size + 1 + 1) wA a len) := show CodeIs _ _ _ _ from (hC.later b0).mono (by omega)
  have B0 := Lib.hid b0
  clear b0 hC q0 q1
  go_enter Tryz.func6, Tryz.ntmps6
  go_wp2_with fail
  rw [← hA]
  refine (l1New (w.heap.size + 1 + 1) a len cap _ hlen C1.out).mono ?_
  rintro e w1 ⟨rfl, hcur, hb1⟩
  rw [hs0] at hcur hb1 ⊢
  have D1 : Hid (Dw (w.heap.size + 1 + 1) a len cap (w.heap.size + 1 + 1) w1) := ⟨hlen, Nat.le_refl _, C1.out.later hb1, hcur⟩
  have R1 := Lib.hid (And.intro (heap_n8 R0.out.1 hb1 (by omega)) (heap_n8 R0.out.2 hb1 (by omega)))
  have B1 := Lib.hid (B0.out.trans (hb1.mono (by omega)))
  have hz1 : (w.heap.size + 1 + 1) < w1.heap.size := D1.out.cur.lt
  clear hcur hb1 R0 B0 C1 hs0 hA
  go_wp2_with fail
  refine (l8One_is (w.heap.size + 1 + 1) a len cap (w.heap.size + 1 + 1) _ D1.out).mono ?_
  rintro e w2 ⟨c, ts, v, rfl, hp2, own2, d2, wr2⟩
  obtain ⟨va, vc, rfl⟩ := ownShape own2
  have hz2 := wr2.size
  obtain ⟨wB, hB⟩ : ∃ wB, wB = w2.alloc (.cells #[.int .i64 c, .slice va ts.length vc] 26) := ⟨_, rfl⟩
  have ba : Below w2.heap.size w2 wB := hB ▸ alloc_below w2 _
  have hsB : wB.heap.size = w2.heap.size + 1 := by rw [hB]; simp
  have T2 : Hid (wB.heap[w2.heap.size]? = some (.cells #[.int .i64 c, .slice va ts.length vc] 26)) := show _ = _ by rw [hB]; exact heap_last _ _
  have R2 := Lib.hid (And.intro (heap_b8 (heap_w8 R1.out.1 wr2 (by omega)) ba) (heap_b8 (heap_w8 R1.out.2 wr2 (by omega)) ba))
  have B2 := Lib.hid ((B1.out.trans (wr2.lowto (by omega) (by omega))).trans (ba.mono (by omega)))
  have D2 := Lib.hid (d2.later ba)
  have O2 := Lib.hid (ownMono8 (B' := (w.heap.size + 1 + 1) + 1) hz1 (own_below8 own2 ba))
  have P2 := Lib.hid hp2
  clear hp2 own2 d2 wr2 R1 B1 D1 ba
  go_wp2_with fail
  rw [← hB]
  clear hB
  refine (l8One_is (w.heap.size + 1 + 1) a len cap (w.heap.size + 1 + 1) _ D2.out).mono ?_
  rintro e w3 ⟨d, us, u, rfl, hp3, own3, d3, wr3⟩
  obtain ⟨ua, uc, rfl⟩ := ownShape own3
  have hz3 := wr3.size
  obtain ⟨wC, hC⟩ : ∃ wC, wC = w3.alloc (.cells #[.int .i64 d, .slice ua us.length uc] 26) := ⟨_, rfl⟩
  have ba : Below w3.heap.size w3 wC := hC ▸ alloc_below w3 _
  have T3 : wC.heap[w3.heap.size]? = some (.cells #[.int .i64 d, .slice ua us.length uc] 26) := by rw [hC]; exact heap_last _ _
  have MS0 : Hid (MS11 w (w.heap.size + 1 + 1) w2.heap.size w3.heap.size a len cap c (.slice va ts.length vc) ts d (.slice ua us.length uc) us wC) :=
    MS11.mk (own_below8 (own_w8 O2.out wr3 (Nat.lt_succ_self _)) ba) (own_below8 (ownMono8 (by omega) own3) ba) (heap_b8 (heap_w8 T2.out wr3 (by omega)) ba) (T3) (heap_b8 (heap_w8 R2.out.1 wr3 (by omega)) ba) (heap_b8 (heap_w8 R2.out.2 wr3 (by omega)) ba) (d3.later ba) ((B2.out.trans (wr3.lowto (by omega) (by have := B2.out.size; omega))).trans (ba.mono (by have := B2.out.size; omega))) P2.out hp3 rfl (by omega) (by omega)
  clear hp3 own3 d3 wr3 R2 B2 D2 O2 P2 T2 T3 ba
  go_wp2_with fail
  rw [← hC]
  clear hC hz1 hz2 hz3 hsB
  refine (l1Once_is8 (w.heap.size + 1 + 1) a len cap (w.heap.size + 1 + 1) 2 _ MS0.out.dw (by omega)).mono ?_
  rintro e x1 ⟨y, rfl, d5, wr5⟩
  have MS1 := Lib.hid (MS0.out.wr wr5 d5)
  clear d5 wr5 MS0
  cases y with
  | false =>
    go_wp2_with fail
    refine (l1Once_is8 (w.heap.size + 1 + 1) a len cap (w.heap.size + 1 + 1) 3 _ MS1.out.dw (by omega)).mono ?_
    rintro e x2 ⟨y, rfl, d5, wr5⟩
    have MS2 := Lib.hid (MS1.out.wr wr5 d5)
    clear d5 wr5 MS1
    cases y with
    | false =>
      go_wp2_with fail
      obtain ⟨wD, hD⟩ : ∃ wD, wD = x2.drew := ⟨_, rfl⟩
      have bd : Below x2.heap.size x2 wD := by rw [hD]; exact (Below.refl _ _).drew
      have MD := Lib.hid (MS2.out.later bd)
      have hS := And.intro MD.out.h6 MD.out.h7
      refine wp_region_last (fun w' => w'.heap[w2.heap.size]? = some (.cells #[.int .i64 c, .slice va ts.length vc] 26) ∧ w'.heap[w3.heap.size]? = some (.cells #[.int .i64 d, .slice ua us.length uc] 26)) 6 (by kernel_rfl) ?_
      rw [← hD]
      clear hD bd MS2
      refine wpAnyL_take (i := 0) (v := .agg #[.int .i64 c, .slice va ts.length vc]) rfl (by kernel_rfl) (by kernel_rfl) (by kernel_rfl) (by kernel_rfl) (fun _ _ _ h => h) (Or.inl ⟨by rfl, ?yd0⟩) hS ?_
      case yd0 => intro w hSw; obtain ⟨⟨j0, j1⟩, _⟩ := blk2 hSw.1; go_simp
      simp only [Act.put, List.getElem_toArray, List.getElem_cons_succ, List.getElem_cons_zero, List.setIfInBounds_toArray, List.set_cons_zero, List.set_cons_succ]
      refine wpAnyL_take (i := 1) (v := .agg #[.int .i64 d, .slice ua us.length uc]) rfl (by kernel_rfl) (by kernel_rfl) (by kernel_rfl) (by kernel_rfl) (fun _ _ _ h => h) (Or.inl ⟨by rfl, ?yd1⟩) hS ?_
      case yd1 => intro w hSw; obtain ⟨⟨j0, j1⟩, _⟩ := blk2 hSw.2; go_simp
      simp only [Act.put, List.getElem_toArray, List.getElem_cons_succ, List.getElem_cons_zero, List.setIfInBounds_toArray, List.set_cons_zero, List.set_cons_succ]
      refine wpAnyL_take (i := 2) (v := .pointer (some ⟨(w.heap.size + 1 + 1), 0, Option.none⟩)) rfl (by kernel_rfl) (by kernel_rfl) (by kernel_rfl) (by kernel_rfl) (fun _ _ _ h => h) (Or.inl ⟨by rfl, ?yd2⟩) hS ?_
      case yd2 => intro w hSw; go_simp
      simp only [Act.put, List.getElem_toArray, List.getElem_cons_succ, List.getElem_cons_zero, List.setIfInBounds_toArray, List.set_cons_zero, List.set_cons_succ]
      refine wpAnyL_ready (rs := [3]) (by kernel_rfl) (by simp) ?_
      refine AllReadyL.cons rfl (fun K hK => ?_) AllReadyL.nil
      rw [if_pos (by rfl)]
      simp only [List.getElem_toArray, List.getElem_cons_succ, List.getElem_cons_zero]
      go_wp2_with fail
      refine (l9Draw_is (w.heap.size + 1 + 1) a len cap (w.heap.size + 1 + 1) _ MD.out.dw).mono ?_
      rintro e wE ⟨rs, u9, rfl, hbs, hr5, d5, wr5⟩
      obtain ⟨ua9, uc9, rfl⟩ := ownShape hr5
      have ME := Lib.hid (MD.out.wr wr5 d5)
      have P5 := Lib.hid hbs
      have O5 := Lib.hid (ownMono8 (B' := (w.heap.size + 1 + 1) + 1) MD.out.dw.cur.lt hr5)
      go_wp2_with fail
      refine hK.out _ _ (fun _ => And.intro ME.out.h6 ME.out.h7) ?_
      clear hS hK hbs hr5 d5 wr5 MD
      have hS := And.intro ME.out.h6 ME.out.h7
      have hne6 := ME.out.hb6
      have hne7 := ME.out.hb7
      have hnb := ME.out.hb
      refine wpAnyL_ready (rs := [4]) (by kernel_rfl) (by simp) ?_
      refine AllReadyL.cons rfl (fun K hK => ?_) AllReadyL.nil
      rw [if_pos (by rfl)]
      simp only [List.getElem_toArray, List.getElem_cons_succ, List.getElem_cons_zero]
      obtain ⟨⟨e0, e1⟩, k0, k1⟩ := blk2 ME.out.r2
      go_wp2_with fail
      refine hK.out _ _ (fun _ => And.intro (heap_box11 hS.1 (by omega)) (heap_box11 hS.2 (by omega))) ?_
      obtain ⟨wF, hF⟩ : ∃ wF, wF = (wE.setCell ⟨w.heap.size, 0, Option.none⟩ (.int .i64 c)).setCell ⟨w.heap.size, 1, Option.none⟩ (.slice va ts.length vc) := ⟨_, rfl⟩
      have r2 : wF.heap[w.heap.size]? = some (.cells #[.int .i64 c, .slice va ts.length vc] 26) := by rw [hF]; exact two_at ME.out.r2
      have r3 : wF.heap[w.heap.size + 1]? = some (.cells #[.int .i64 0, .slice Option.none 0 0] 26) := by rw [hF]; exact heap_box11 ME.out.r3 (by omega)
      have OF1 : wF.ownsRow ((w.heap.size + 1 + 1) + 1) 70 2 (.slice va ts.length vc) ts.length (acells ts) := by rw [hF]; exact own_box11 ME.out.o1 ME.out.r2
      have OF2 : wF.ownsRow ((w.heap.size + 1 + 1) + 1) 70 2 (.slice ua us.length uc) us.length (acells us) := by rw [hF]; exact own_box11 ME.out.o2 ME.out.r2
      have OF3 : wF.ownsRow ((w.heap.size + 1 + 1) + 1) 32 3 (.slice ua9 rs.length uc9) rs.length (rcells8 rs) := by
        rw [hF]
        exact own_later8 O5.out fun g _ hg _ => by
          have hne : g ≠ w.heap.size := by omega
          exact (Below.heap_setCell _ _ _ _ hne).trans (Below.heap_setCell _ _ _ _ hne)
      have LF : Below w.heap.size w wF := by rw [hF]; exact ME.out.low.trans (low_box11 _ _ _ (Nat.le_refl _))
      have hS6 : wF.heap[w2.heap.size]? = some (.cells #[.int .i64 c, .slice va ts.length vc] 26) := by rw [hF]; exact heap_box11 hS.1 (by omega)
      have hS7 : wF.heap[w3.heap.size]? = some (.cells #[.int .i64 d, .slice ua us.length uc] 26) := by rw [hF]; exact heap_box11 hS.2 (by omega)
      rw [← hF]
      clear hF hK hS e0 e1 k0 k1
      have HF := Lib.hid (And.intro r2 (And.intro r3 (And.intro OF1 (And.intro OF2 (And.intro OF3 LF)))))
      have hS := And.intro hS6 hS7
      clear hS6 hS7 r2 r3 OF1 OF2 OF3 LF O5
      refine wpAnyL_ready (rs := [5]) (by kernel_rfl) (by simp) ?_
      refine AllReadyL.cons rfl (fun K hK => ?_) AllReadyL.nil
      rw [if_pos (by rfl)]
      simp only [List.getElem_toArray, List.getElem_cons_succ, List.getElem_cons_zero]
      obtain ⟨⟨e0, e1⟩, k0, k1⟩ := blk2 HF.out.2.1
      go_wp2_with fail
      refine hK.out _ _ (fun _ => And.intro (heap_box11 hS.1 (by omega)) (heap_box11 hS.2 (by omega))) ?_
      obtain ⟨wG, hG⟩ : ∃ wG, wG = (wF.setCell ⟨w.heap.size + 1, 0, Option.none⟩ (.int .i64 d)).setCell ⟨w.heap.size + 1, 1, Option.none⟩ (.slice ua us.length uc) := ⟨_, rfl⟩
      have r2 : wG.heap[w.heap.size]? = some (.cells #[.int .i64 c, .slice va ts.length vc] 26) := by rw [hG]; exact heap_box11 HF.out.1 (by omega)
      have r3 : wG.heap[w.heap.size + 1]? = some (.cells #[.int .i64 d, .slice ua us.length uc] 26) := by rw [hG]; exact two_at HF.out.2.1
      have OF1 : wG.ownsRow ((w.heap.size + 1 + 1) + 1) 70 2 (.slice va ts.length vc) ts.length (acells ts) := by rw [hG]; exact own_box11 HF.out.2.2.1 HF.out.2.1
      have OF2 : wG.ownsRow ((w.heap.size + 1 + 1) + 1) 70 2 (.slice ua us.length uc) us.length (acells us) := by rw [hG]; exact own_box11 HF.out.2.2.2.1 HF.out.2.1
      have OF3 : wG.ownsRow ((w.heap.size + 1 + 1) + 1) 32 3 (.slice ua9 rs.length uc9) rs.length (rcells8 rs) := by
        rw [hG]
        exact own_later8 HF.out.2.2.2.2.1 fun g _ hg _ => by
          have hne : g ≠ w.heap.size + 1 := by omega
          exact (Below.heap_setCell _ _ _ _ hne).trans (Below.heap_setCell _ _ _ _ hne)
      have LF : Below w.heap.size w wG := by rw [hG]; exact HF.out.2.2.2.2.2.trans (low_box11 _ _ _ (Nat.le_succ _))
      have hS6 : wG.heap[w2.heap.size]? = some (.cells #[.int .i64 c, .slice va ts.length vc] 26) := by rw [hG]; exact heap_box11 hS.1 (by omega)
      have hS7 : wG.heap[w3.heap.size]? = some (.cells #[.int .i64 d, .slice ua us.length uc] 26) := by rw [hG]; exact heap_box11 hS.2 (by omega)
      rw [← hG]
      clear hG hK hS e0 e1 k0 k1 HF
      have OO := Lib.hid (And.intro OF1 (And.intro OF2 (And.intro OF3 LF)))
      have hS := And.intro hS6 hS7
      obtain ⟨⟨x20, x21⟩, _⟩ := blk2 r2
      obtain ⟨⟨x30, x31⟩, _⟩ := blk2 r3
      clear hS6 hS7 r2 r3 OF1 OF2 OF3 LF
      refine wpAnyL_ready (rs := [6]) (by kernel_rfl) (by simp) ?_
      refine AllReadyL.cons rfl (fun K hK => ?_) AllReadyL.nil
      rw [if_pos (by rfl)]
      simp only [List.getElem_toArray, List.getElem_cons_succ, List.getElem_cons_zero]
      go_wp2_with fail
      refine hK.out _ _ (fun e => absurd rfl e) ?_
      clear hK
      refine wpAnyL_done (by kernel_rfl) ?_ _
      clear hS
      go_wp2
      exact bodyPost_ret (v := .tuple #[.agg #[.int .i64 c, .slice va ts.length vc], .agg #[.int .i64 d, .slice ua us.length uc], .slice ua9 rs.length uc9]) (by simp [results, Tryz.results6, go_sem, x20, x21, x30, x31]) rfl ⟨c, ts, d, us, rs, _, _, _, rfl, ME.out.p1, ME.out.p2, P5.out, ownMono8 (by omega) OO.out.1, ownMono8 (by omega) OO.out.2.1, ownMono8 (by omega) OO.out.2.2.1, OO.out.2.2.2⟩
    | true =>
      go_wp2_with fail
      refine (l8Draw_is (w.heap.size + 1 + 1) a len cap (w.heap.size + 1 + 1) _ MS2.out.dw).mono ?_
      rintro e x3 ⟨c3, ts3, v3, rfl, hp5, own5, d5, wr5⟩
      obtain ⟨va3, vc3, rfl⟩ := ownShape own5
      have own5 := ownMono8 (B' := (w.heap.size + 1 + 1) + 1) MS2.out.dw.cur.lt own5
      have MS3 := MS2.out.wr wr5 d5
      obtain ⟨⟨e0, e1⟩, k0, k1⟩ := blk2 MS3.h7
      have MS4 := Lib.hid (MS3.set7 own5 hp5)
      obtain ⟨x4, X4⟩ : ∃ x, Hid (x = (x3.setCell ⟨w3.heap.size, 0, Option.none⟩ (.int .i64 c3)).setCell ⟨w3.heap.size, 1, Option.none⟩ (.slice va3 ts3.length vc3)) := ⟨_, rfl⟩
      rw [← X4.out] at MS4
      clear MS3 MS2 own5 hp5 d5 wr5
      go_wp2_with fail
      rw [← X4.out]
      clear X4 e0 e1 k0 k1
      obtain ⟨wD, hD⟩ : ∃ wD, wD = x4.drew := ⟨_, rfl⟩
      have bd : Below x4.heap.size x4 wD := by rw [hD]; exact (Below.refl _ _).drew
      have MD := Lib.hid (MS4.out.later bd)
      have hS := And.intro MD.out.h6 MD.out.h7
      refine wp_region_last (fun w' => w'.heap[w2.heap.size]? = some (.cells #[.int .i64 c, .slice va ts.length vc] 26) ∧ w'.heap[w3.heap.size]? = some (.cells #[.int .i64 c3, .slice va3 ts3.length vc3] 26)) 6 (by kernel_rfl) ?_
      rw [← hD]
      clear hD bd MS4
      refine wpAnyL_take (i := 0) (v := .agg #[.int .i64 c, .slice va ts.length vc]) rfl (by kernel_rfl) (by kernel_rfl) (by kernel_rfl) (by kernel_rfl) (fun _ _ _ h => h) (Or.inl ⟨by rfl, ?yd0⟩) hS ?_
      case yd0 => intro w hSw; obtain ⟨⟨j0, j1⟩, _⟩ := blk2 hSw.1; go_simp
      simp only [Act.put, List.getElem_toArray, List.getElem_cons_succ, List.getElem_cons_zero, List.setIfInBounds_toArray, List.set_cons_zero, List.set_cons_succ]
      refine wpAnyL_take (i := 1) (v := .agg #[.int .i64 c3, .slice va3 ts3.length vc3]) rfl (by kernel_rfl) (by kernel_rfl) (by kernel_rfl) (by kernel_rfl) (fun _ _ _ h => h) (Or.inl ⟨by rfl, ?yd1⟩) hS ?_
      case yd1 => intro w hSw; obtain ⟨⟨j0, j1⟩, _⟩ := blk2 hSw.2; go_simp
      simp only [Act.put, List.getElem_toArray, List.getElem_cons_succ, List.getElem_cons_zero, List.setIfInBounds_toArray, List.set_cons_zero, List.set_cons_succ]
      refine wpAnyL_take (i := 2) (v := .pointer (some ⟨(w.heap.size + 1 + 1), 0, Option.none⟩)) rfl (by kernel_rfl) (by kernel_rfl) (by kernel_rfl) (by kernel_rfl) (fun _ _ _ h => h) (Or.inl ⟨by rfl, ?yd2⟩) hS ?_
      case yd2 => intro w hSw; go_simp
      simp only [Act.put, List.getElem_toArray, List.getElem_cons_succ, List.getElem_cons_zero, List.setIfInBounds_toArray, List.set_cons_zero, List.set_cons_succ]
      refine wpAnyL_ready (rs := [3]) (by kernel_rfl) (by simp) ?_
      refine AllReadyL.cons rfl (fun K hK => ?_) AllReadyL.nil
      rw [if_pos (by rfl)]
      simp only [List.getElem_toArray, List.getElem_cons_succ, List.getElem_cons_zero]
      go_wp2_with fail
      refine (l9Draw_is (w.heap.size + 1 + 1) a len cap (w.heap.size + 1 + 1) _ MD.out.dw).mono ?_
      rintro e wE ⟨rs, u9, rfl, hbs, hr5, d5, wr5⟩
      obtain ⟨ua9, uc9, rfl⟩ := ownShape hr5
      have ME := Lib.hid (MD.out.wr wr5 d5)
      have P5 := Lib.hid hbs
      have O5 := Lib.hid (ownMono8 (B' := (w.heap.size + 1 + 1) + 1) MD.out.dw.cur.lt hr5)
      go_wp2_with fail
      refine hK.out _ _ (fun _ => And.intro ME.out.h6 ME.out.h7) ?_
      clear hS hK hbs hr5 d5 wr5 MD
      have hS := And.intro ME.out.h6 ME.out.h7
      have hne6 := ME.out.hb6
      have hne7 := ME.out.hb7
      have hnb := ME.out.hb
      refine wpAnyL_ready (rs := [4]) (by kernel_rfl) (by simp) ?_
      refine AllReadyL.cons rfl (fun K hK => ?_) AllReadyL.nil
      rw [if_pos (by rfl)]
      simp only [List.getElem_toArray, List.getElem_cons_succ, List.getElem_cons_zero]
      obtain ⟨⟨e0, e1⟩, k0, k1⟩ := blk2 ME.out.r2
      go_wp2_with fail
      refine hK.out _ _ (fun _ => And.intro (heap_box11 hS.1 (by omega)) (heap_box11 hS.2 (by omega))) ?_
      obtain ⟨wF, hF⟩ : ∃ wF, wF = (wE.setCell ⟨w.heap.size, 0, Option.none⟩ (.int .i64 c)).setCell ⟨w.heap.size, 1, Option.none⟩ (.slice va ts.length vc) := ⟨_, rfl⟩
      have r2 : wF.heap[w.heap.size]? = some (.cells #[.int .i64 c, .slice va ts.length vc] 26) := by rw [hF]; exact two_at ME.out.r2
      have r3 : wF.heap[w.heap.size + 1]? = some (.cells #[.int .i64 0, .slice Option.none 0 0] 26) := by rw [hF]; exact heap_box11 ME.out.r3 (by omega)
      have OF1 : wF.ownsRow ((w.heap.size + 1 + 1) + 1) 70 2 (.slice va ts.length vc) ts.length (acells ts) := by rw [hF]; exact own_box11 ME.out.o1 ME.out.r2
      have OF2 : wF.ownsRow ((w.heap.size + 1 + 1) + 1) 70 2 (.slice va3 ts3.length vc3) ts3.length (acells ts3) := by rw [hF]; exact own_box11 ME.out.o2 ME.out.r2
      have OF3 : wF.ownsRow ((w.heap.size + 1 + 1) + 1) 32 3 (.slice ua9 rs.length uc9) rs.length (rcells8 rs) := by
        rw [hF]
        exact own_later8 O5.out fun g _ hg _ => by
          have hne : g ≠ w.heap.size := by omega
          exact (Below.heap_setCell _ _ _ _ hne).trans (Below.heap_setCell _ _ _ _ hne)
      have LF : Below w.heap.size w wF := by rw [hF]; exact ME.out.low.trans (low_box11 _ _ _ (Nat.le_refl _))
      have hS6 : wF.heap[w2.heap.size]? = some (.cells #[.int .i64 c, .slice va ts.length vc] 26) := by rw [hF]; exact heap_box11 hS.1 (by omega)
      have hS7 : wF.heap[w3.heap.size]? = some (.cells #[.int .i64 c3, .slice va3 ts3.length vc3] 26) := by rw [hF]; exact heap_box11 hS.2 (by omega)
      rw [← hF]
      clear hF hK hS e0 e1 k0 k1
      have HF := Lib.hid (And.intro r2 (And.intro r3 (And.intro OF1 (And.intro OF2 (And.intro OF3 LF)))))
      have hS := And.intro hS6 hS7
      clear hS6 hS7 r2 r3 OF1 OF2 OF3 LF O5
      refine wpAnyL_ready (rs := [5]) (by kernel_rfl) (by simp) ?_
      refine AllReadyL.cons rfl (fun K hK => ?_) AllReadyL.nil
      rw [if_pos (by rfl)]
      simp only [List.getElem_toArray, List.getElem_cons_succ, List.getElem_cons_zero]
      obtain ⟨⟨e0, e1⟩, k0, k1⟩ := blk2 HF.out.2.1
      go_wp2_with fail
      refine hK.out _ _ (fun _ => And.intro (heap_box11 hS.1 (by omega)) (heap_box11 hS.2 (by omega))) ?_
      obtain ⟨wG, hG⟩ : ∃ wG, wG = (wF.setCell ⟨w.heap.size + 1, 0, Option.none⟩ (.int .i64 c3)).setCell ⟨w.heap.size + 1, 1, Option.none⟩ (.slice va3 ts3.length vc3) := ⟨_, rfl⟩
      have r2 : wG.heap[w.heap.size]? = some (.cells #[.int .i64 c, .slice va ts.length vc] 26) := by rw [hG]; exact heap_box11 HF.out.1 (by omega)
      have r3 : wG.heap[w.heap.size + 1]? = some (.cells #[.int .i64 c3, .slice va3 ts3.length vc3] 26) := by rw [hG]; exact two_at HF.out.2.1
      have OF1 : wG.ownsRow ((w.heap.size + 1 + 1) + 1) 70 2 (.slice va ts.length vc) ts.length (acells ts) := by rw [hG]; exact own_box11 HF.out.2.2.1 HF.out.2.1
      have OF2 : wG.ownsRow ((w.heap.size + 1 + 1) + 1) 70 2 (.slice va3 ts3.length vc3) ts3.length (acells ts3) := by rw [hG]; exact own_box11 HF.out.2.2.2.1 HF.out.2.1
      have OF3 : wG.ownsRow ((w.heap.size + 1 + 1) + 1) 32 3 (.slice ua9 rs.length uc9) rs.length (rcells8 rs) := by
        rw [hG]
        exact own_later8 HF.out.2.2.2.2.1 fun g _ hg _ => by
          have hne : g ≠ w.heap.size + 1 := by omega
          exact (Below.heap_setCell _ _ _ _ hne).trans (Below.heap_setCell _ _ _ _ hne)
      have LF : Below w.heap.size w wG := by rw [hG]; exact HF.out.2.2.2.2.2.trans (low_box11 _ _ _ (Nat.le_succ _))
      have hS6 : wG.heap[w2.heap.size]? = some (.cells #[.int .i64 c, .slice va ts.length vc] 26) := by rw [hG]; exact heap_box11 hS.1 (by omega)
      have hS7 : wG.heap[w3.heap.size]? = some (.cells #[.int .i64 c3, .slice va3 ts3.length vc3] 26) := by rw [hG]; exact heap_box11 hS.2 (by omega)
      rw [← hG]
      clear hG hK hS e0 e1 k0 k1 HF
      have OO := Lib.hid (And.intro OF1 (And.intro OF2 (And.intro OF3 LF)))
      have hS := And.intro hS6 hS7
      obtain ⟨⟨x20, x21⟩, _⟩ := blk2 r2
      obtain ⟨⟨x30, x31⟩, _⟩ := blk2 r3
      clear hS6 hS7 r2 r3 OF1 OF2 OF3 LF
      refine wpAnyL_ready (rs := [6]) (by kernel_rfl) (by simp) ?_
      refine AllReadyL.cons rfl (fun K hK => ?_) AllReadyL.nil
      rw [if_pos (by rfl)]
      simp only [List.getElem_toArray, List.getElem_cons_succ, List.getElem_cons_zero]
      go_wp2_with fail
      refine hK.out _ _ (fun e => absurd rfl e) ?_
      clear hK
      refine wpAnyL_done (by kernel_rfl) ?_ _
      clear hS
      go_wp2
      exact bodyPost_ret (v := .tuple #[.agg #[.int .i64 c, .slice va ts.length vc], .agg #[.int .i64 c3, .slice va3 ts3.length vc3], .slice ua9 rs.length uc9]) (by simp [results, Tryz.results6, go_sem, x20, x21, x30, x31]) rfl ⟨c, ts, c3, ts3, rs, _, _, _, rfl, ME.out.p1, ME.out.p2, P5.out, ownMono8 (by omega) OO.out.1, ownMono8 (by omega) OO.out.2.1, ownMono8 (by omega) OO.out.2.2.1, OO.out.2.2.2⟩
  | true =>
    go_wp2_with fail
    refine (l8Draw_is (w.heap.size + 1 + 1) a len cap (w.heap.size + 1 + 1) _ MS1.out.dw).mono ?_
    rintro e x2 ⟨c2, ts2, v2, rfl, hp5, own5, d5, wr5⟩
    obtain ⟨va2, vc2, rfl⟩ := ownShape own5
    have own5 := ownMono8 (B' := (w.heap.size + 1 + 1) + 1) MS1.out.dw.cur.lt own5
    have MS2 := MS1.out.wr wr5 d5
    obtain ⟨⟨e0, e1⟩, k0, k1⟩ := blk2 MS2.h6
    have MS3 := Lib.hid (MS2.set6 own5 hp5)
    obtain ⟨x3, X3⟩ : ∃ x, Hid (x = (x2.setCell ⟨w2.heap.size, 0, Option.none⟩ (.int .i64 c2)).setCell ⟨w2.heap.size, 1, Option.none⟩ (.slice va2 ts2.length vc2)) := ⟨_, rfl⟩
    rw [← X3.out] at MS3
    clear MS2 MS1 own5 hp5 d5 wr5
    go_wp2_with fail
    rw [← X3.out]
    clear X3 e0 e1 k0 k1
    refine (l1Once_is8 (w.heap.size + 1 + 1) a len cap (w.heap.size + 1 + 1) 3 _ MS3.out.dw (by omega)).mono ?_
    rintro e x4 ⟨y, rfl, d5, wr5⟩
    have MS4 := Lib.hid (MS3.out.wr wr5 d5)
    clear d5 wr5 MS3
    cases y with
    | false =>
      go_wp2_with fail
      obtain ⟨wD, hD⟩ : ∃ wD, wD = x4.drew := ⟨_, rfl⟩
      have bd : Below x4.heap.size x4 wD := by rw [hD]; exact (Below.refl _ _).drew
      have MD := Lib.hid (MS4.out.later bd)
      have hS := And.intro MD.out.h6 MD.out.h7
      refine wp_region_last (fun w' => w'.heap[w2.heap.size]? = some (.cells #[.int .i64 c2, .slice va2 ts2.length vc2] 26) ∧ w'.heap[w3.heap.size]? = some (.cells #[.int .i64 d, .slice ua us.length uc] 26)) 6 (by kernel_rfl) ?_
      rw [← hD]
      clear hD bd MS4
      refine wpAnyL_take (i := 0) (v := .agg #[.int .i64 c2, .slice va2 ts2.length vc2]) rfl (by kernel_rfl) (by kernel_rfl) (by kernel_rfl) (by kernel_rfl) (fun _ _ _ h => h) (Or.inl ⟨by rfl, ?yd0⟩) hS ?_
      case yd0 => intro w hSw; obtain ⟨⟨j0, j1⟩, _⟩ := blk2 hSw.1; go_simp
      simp only [Act.put, List.getElem_toArray, List.getElem_cons_succ, List.getElem_cons_zero, List.setIfInBounds_toArray, List.set_cons_zero, List.set_cons_succ]
      refine wpAnyL_take (i := 1) (v := .agg #[.int .i64 d, .slice ua us.length uc]) rfl (by kernel_rfl) (by kernel_rfl) (by kernel_rfl) (by kernel_rfl) (fun _ _ _ h => h) (Or.inl ⟨by rfl, ?yd1⟩) hS ?_
      case yd1 => intro w hSw; obtain ⟨⟨j0, j1⟩, _⟩ := blk2 hSw.2; go_simp
      simp only [Act.put, List.getElem_toArray, List.getElem_cons_succ, List.getElem_cons_zero, List.setIfInBounds_toArray, List.set_cons_zero, List.set_cons_succ]
      refine wpAnyL_take (i := 2) (v := .pointer (some ⟨(w.heap.size + 1 + 1), 0, Option.none⟩)) rfl (by kernel_rfl) (by kernel_rfl) (by kernel_rfl) (by kernel_rfl) (fun _ _ _ h => h) (Or.inl ⟨by rfl, ?yd2⟩) hS ?_
      case yd2 => intro w hSw; go_simp
      simp only [Act.put, List.getElem_toArray, List.getElem_cons_succ, List.getElem_cons_zero, List.setIfInBounds_toArray, List.set_cons_zero, List.set_cons_succ]
      refine wpAnyL_ready (rs := [3]) (by kernel_rfl) (by simp) ?_
      refine AllReadyL.cons rfl (fun K hK => ?_) AllReadyL.nil
      rw [if_pos (by rfl)]
      simp only [List.getElem_toArray, List.getElem_cons_succ, List.getElem_cons_zero]
      go_wp2_with fail
      refine (l9Draw_is (w.heap.size + 1 + 1) a len cap (w.heap.size + 1 + 1) _ MD.out.dw).mono ?_
      rintro e wE ⟨rs, u9, rfl, hbs, hr5, d5, wr5⟩
      obtain ⟨ua9, uc9, rfl⟩ := ownShape hr5
      have ME := Lib.hid (MD.out.wr wr5 d5)
      have P5 := Lib.hid hbs
      have O5 := Lib.hid (ownMono8 (B' := (w.heap.size + 1 + 1) + 1) MD.out.dw.cur.lt hr5)
      go_wp2_with fail
      refine hK.out _ _ (fun _ => And.intro ME.out.h6 ME.out.h7) ?_
      clear hS hK hbs hr5 d5 wr5 MD
      have hS := And.intro ME.out.h6 ME.out.h7
      have hne6 := ME.out.hb6
      have hne7 := ME.out.hb7
      have hnb := ME.out.hb
      refine wpAnyL_ready (rs := [4]) (by kernel_rfl) (by simp) ?_
      refine AllReadyL.cons rfl (fun K hK => ?_) AllReadyL.nil
      rw [if_pos (by rfl)]
      simp only [List.getElem_toArray, List.getElem_cons_succ, List.getElem_cons_zero]
      obtain ⟨⟨e0, e1⟩, k0, k1⟩ := blk2 ME.out.r2
      go_wp2_with fail
      refine hK.out _ _ (fun _ => And.intro (heap_box11 hS.1 (by omega)) (heap_box11 hS.2 (by omega))) ?_
      obtain ⟨wF, hF⟩ : ∃ wF, wF = (wE.setCell ⟨w.heap.size, 0, Option.none⟩ (.int .i64 c2)).setCell ⟨w.heap.size, 1, Option.none⟩ (.slice va2 ts2.length vc2) := ⟨_, rfl⟩
      have r2 : wF.heap[w.heap.size]? = some (.cells #[.int .i64 c2, .slice va2 ts2.length vc2] 26) := by rw [hF]; exact two_at ME.out.r2
      have r3 : wF.heap[w.heap.size + 1]? = some (.cells #[.int .i64 0, .slice Option.none 0 0] 26) := by rw [hF]; exact heap_box11 ME.out.r3 (by omega)
      have OF1 : wF.ownsRow ((w.heap.size + 1 + 1) + 1) 70 2 (.slice va2 ts2.length vc2) ts2.length (acells ts2) := by rw [hF]; exact own_box11 ME.out.o1 ME.out.r2
      have OF2 : wF.ownsRow ((w.heap.size + 1 + 1) + 1) 70 2 (.slice ua us.length uc) us.length (acells us) := by rw [hF]; exact own_box11 ME.out.o2 ME.out.r2
      have OF3 : wF.ownsRow ((w.heap.size + 1 + 1) + 1) 32 3 (.slice ua9 rs.length uc9) rs.length (rcells8 rs) := by
        rw [hF]
        exact own_later8 O5.out fun g _ hg _ => by
          have hne : g ≠ w.heap.size := by omega
          exact (Below.heap_setCell _ _ _ _ hne).trans (Below.heap_setCell _ _ _ _ hne)
      have LF : Below w.heap.size w wF := by rw [hF]; exact ME.out.low.trans (low_box11 _ _ _ (Nat.le_refl _))
      have hS6 : wF.heap[w2.heap.size]? = some (.cells #[.int .i64 c2, .slice va2 ts2.length vc2] 26) := by rw [hF]; exact heap_box11 hS.1 (by omega)
      have hS7 : wF.heap[w3.heap.size]? = some (.cells #[.int .i64 d, .slice ua us.length uc] 26) := by rw [hF]; exact heap_box11 hS.2 (by omega)
      rw [← hF]
      clear hF hK hS e0 e1 k0 k1
      have HF := Lib.hid (And.intro r2 (And.intro r3 (And.intro OF1 (And.intro OF2 (And.intro OF3 LF)))))
      have hS := And.intro hS6 hS7
      clear hS6 hS7 r2 r3 OF1 OF2 OF3 LF O5
      refine wpAnyL_ready (rs := [5]) (by kernel_rfl) (by simp) ?_
      refine AllReadyL.cons rfl (fun K hK => ?_) AllReadyL.nil
      rw [if_pos (by rfl)]
      simp only [List.getElem_toArray, List.getElem_cons_succ, List.getElem_cons_zero]
      obtain ⟨⟨e0, e1⟩, k0, k1⟩ := blk2 HF.out.2.1
      go_wp2_with fail
      refine hK.out _ _ (fun _ => And.intro (heap_box11 hS.1 (by omega)) (heap_box11 hS.2 (by omega))) ?_
      obtain ⟨wG, hG⟩ : ∃ wG, wG = (wF.setCell ⟨w.heap.size + 1, 0, Option.none⟩ (.int .i64 d)).setCell ⟨w.heap.size + 1, 1, Option.none⟩ (.slice ua us.length uc) := ⟨_, rfl⟩
      have r2 : wG.heap[w.heap.size]? = some (.cells #[.int .i64 c2, .slice va2 ts2.length vc2] 26) := by rw [hG]; exact heap_box11 HF.out.1 (by omega)
      have r3 : wG.heap[w.heap.size + 1]? = some (.cells #[.int .i64 d, .slice ua us.length uc] 26) := by rw [hG]; exact two_at HF.out.2.1
      have OF1 : wG.ownsRow ((w.heap.size + 1 + 1) + 1) 70 2 (.slice va2 ts2.length vc2) ts2.length (acells ts2) := by rw [hG]; exact own_box11 HF.out.2.2.1 HF.out.2.1
      have OF2 : wG.ownsRow ((w.heap.size + 1 + 1) + 1) 70 2 (.slice ua us.length uc) us.length (acells us) := by rw [hG]; exact own_box11 HF.out.2.2.2.1 HF.out.2.1
      have OF3 : wG.ownsRow ((w.heap.size + 1 + 1) + 1) 32 3 (.slice ua9 rs.length uc9) rs.length (rcells8 rs) := by
        rw [hG]
        exact own_later8 HF.out.2.2.2.2.1 fun g _ hg _ => by
          have hne : g ≠ w.heap.size + 1 := by omega
          exact (Below.heap_setCell _ _ _ _ hne).trans (Below.heap_setCell _ _ _ _ hne)
      have LF : Below w.heap.size w wG := by rw [hG]; exact HF.out.2.2.2.2.2.trans (low_box11 _ _ _ (Nat.le_succ _))
      have hS6 : wG.heap[w2.heap.size]? = some (.cells #[.int .i64 c2, .slice va2 ts2.length vc2] 26) := by rw [hG]; exact heap_box11 hS.1 (by omega)
      have hS7 : wG.heap[w3.heap.size]? = some (.cells #[.int .i64 d, .slice ua us.length uc] 26) := by rw [hG]; exact heap_box11 hS.2 (by omega)
      rw [← hG]
      clear hG hK hS e0 e1 k0 k1 HF
      have OO := Lib.hid (And.intro OF1 (And.intro OF2 (And.intro OF3 LF)))
      have hS := And.intro hS6 hS7
      obtain ⟨⟨x20, x21⟩, _⟩ := blk2 r2
      obtain ⟨⟨x30, x31⟩, _⟩ := blk2 r3
      clear hS6 hS7 r2 r3 OF1 OF2 OF3 LF
      refine wpAnyL_ready (rs := [6]) (by kernel_rfl) (by simp) ?_
      refine AllReadyL.cons rfl (fun K hK => ?_) AllReadyL.nil
      rw [if_pos (by rfl)]
      simp only [List.getElem_toArray, List.getElem_cons_succ, List.getElem_cons_zero]
      go_wp2_with fail
      refine hK.out _ _ (fun e => absurd rfl e) ?_
      clear hK
      refine wpAnyL_done (by kernel_rfl) ?_ _
      clear hS
      go_wp2
      exact bodyPost_ret (v := .tuple #[.agg #[.int .i64 c2, .slice va2 ts2.length vc2], .agg #[.int .i64 d, .slice ua us.length uc], .slice ua9 rs.length uc9]) (by simp [results, Tryz.results6, go_sem, x20, x21, x30, x31]) rfl ⟨c2, ts2, d, us, rs, _, _, _, rfl, ME.out.p1, ME.out.p2, P5.out, ownMono8 (by omega) OO.out.1, ownMono8 (by omega) OO.out.2.1, ownMono8 (by omega) OO.out.2.2.1, OO.out.2.2.2⟩
    | true =>
      go_wp2_with fail
      refine (l8Draw_is (w.heap.size + 1 + 1) a len cap (w.heap.size + 1 + 1) _ MS4.out.dw).mono ?_
      rintro e x5 ⟨c5, ts5, v5, rfl, hp5, own5, d5, wr5⟩
      obtain ⟨va5, vc5, rfl⟩ := ownShape own5
      have own5 := ownMono8 (B' := (w.heap.size + 1 + 1) + 1) MS4.out.dw.cur.lt own5
      have MS5 := MS4.out.wr wr5 d5
      obtain ⟨⟨e0, e1⟩, k0, k1⟩ := blk2 MS5.h7
      have MS6 := Lib.hid (MS5.set7 own5 hp5)
      obtain ⟨x6, X6⟩ : ∃ x, Hid (x = (x5.setCell ⟨w3.heap.size, 0, Option.none⟩ (.int .i64 c5)).setCell ⟨w3.heap.size, 1, Option.none⟩ (.slice va5 ts5.length vc5)) := ⟨_, rfl⟩
      rw [← X6.out] at MS6
      clear MS5 MS4 own5 hp5 d5 wr5
      go_wp2_with fail
      rw [← X6.out]
      clear X6 e0 e1 k0 k1
      obtain ⟨wD, hD⟩ : ∃ wD, wD = x6.drew := ⟨_, rfl⟩
      have bd : Below x6.heap.size x6 wD := by rw [hD]; exact (Below.refl _ _).drew
      have MD := Lib.hid (MS6.out.later bd)
      have hS := And.intro MD.out.h6 MD.out.h7
      refine wp_region_last (fun w' => w'.heap[w2.heap.size]? = some (.cells #[.int .i64 c2, .slice va2 ts2.length vc2] 26) ∧ w'.heap[w3.heap.size]? = some (.cells #[.int .i64 c5, .slice va5 ts5.length vc5] 26)) 6 (by kernel_rfl) ?_
      rw [← hD]
      clear hD bd MS6
      refine wpAnyL_take (i := 0) (v := .agg #[.int .i64 c2, .slice va2 ts2.length vc2]) rfl (by kernel_rfl) (by kernel_rfl) (by kernel_rfl) (by kernel_rfl) (fun _ _ _ h => h) (Or.inl ⟨by rfl, ?yd0⟩) hS ?_
      case yd0 => intro w hSw; obtain ⟨⟨j0, j1⟩, _⟩ := blk2 hSw.1; go_simp
      simp only [Act.put, List.getElem_toArray, List.getElem_cons_succ, List.getElem_cons_zero, List.setIfInBounds_toArray, List.set_cons_zero, List.set_cons_succ]
      refine wpAnyL_take (i := 1) (v := .agg #[.int .i64 c5, .slice va5 ts5.length vc5]) rfl (by kernel_rfl) (by kernel_rfl) (by kernel_rfl) (by kernel_rfl) (fun _ _ _ h => h) (Or.inl ⟨by rfl, ?yd1⟩) hS ?_
      case yd1 => intro w hSw; obtain ⟨⟨j0, j1⟩, _⟩ := blk2 hSw.2; go_simp
      simp only [Act.put, List.getElem_toArray, List.getElem_cons_succ, List.getElem_cons_zero, List.setIfInBounds_toArray, List.set_cons_zero, List.set_cons_succ]
      refine wpAnyL_take (i := 2) (v := .pointer (some ⟨(w.heap.size + 1 + 1), 0, Option.none⟩)) rfl (by kernel_rfl) (by kernel_rfl) (by kernel_rfl) (by kernel_rfl) (fun _ _ _ h => h) (Or.inl ⟨by rfl, ?yd2⟩) hS ?_
      case yd2 => intro w hSw; go_simp
      simp only [Act.put, List.getElem_toArray, List.getElem_cons_succ, List.getElem_cons_zero, List.setIfInBounds_toArray, List.set_cons_zero, List.set_cons_succ]
      refine wpAnyL_ready (rs := [3]) (by kernel_rfl) (by simp) ?_
      refine AllReadyL.cons rfl (fun K hK => ?_) AllReadyL.nil
      rw [if_pos (by rfl)]
      simp only [List.getElem_toArray, List.getElem_cons_succ, List.getElem_cons_zero]
      go_wp2_with fail
      refine (l9Draw_is (w.heap.size + 1 + 1) a len cap (w.heap.size + 1 + 1) _ MD.out.dw).mono ?_
      rintro e wE ⟨rs, u9, rfl, hbs, hr5, d5, wr5⟩
      obtain ⟨ua9, uc9, rfl⟩ := ownShape hr5
      have ME := Lib.hid (MD.out.wr wr5 d5)
      have P5 := Lib.hid hbs
      have O5 := Lib.hid (ownMono8 (B' := (w.heap.size + 1 + 1) + 1) MD.out.dw.cur.lt hr5)
      go_wp2_with fail
      refine hK.out _ _ (fun _ => And.intro ME.out.h6 ME.out.h7) ?_
      clear hS hK hbs hr5 d5 wr5 MD
      have hS := And.intro ME.out.h6 ME.out.h7
      have hne6 := ME.out.hb6
      have hne7 := ME.out.hb7
      have hnb := ME.out.hb
      refine wpAnyL_ready (rs := [4]) (by kernel_rfl) (by simp) ?_
      refine AllReadyL.cons rfl (fun K hK => ?_) AllReadyL.nil
      rw [if_pos (by rfl)]
      simp only [List.getElem_toArray, List.getElem_cons_succ, List.getElem_cons_zero]
      obtain ⟨⟨e0, e1⟩, k0, k1⟩ := blk2 ME.out.r2
      go_wp2_with fail
      refine hK.out _ _ (fun _ => And.intro (heap_box11 hS.1 (by omega)) (heap_box11 hS.2 (by omega))) ?_
      obtain ⟨wF, hF⟩ : ∃ wF, wF = (wE.setCell ⟨w.heap.size, 0, Option.none⟩ (.int .i64 c2)).setCell ⟨w.heap.size, 1, Option.none⟩ (.slice va2 ts2.length vc2) := ⟨_, rfl⟩
      have r2 : wF.heap[w.heap.size]? = some (.cells #[.int .i64 c2, .slice va2 ts2.length vc2] 26) := by rw [hF]; exact two_at ME.out.r2
      have r3 : wF.heap[w.heap.size + 1]? = some (.cells #[.int .i64 0, .slice Option.none 0 0] 26) := by rw [hF]; exact heap_box11 ME.out.r3 (by omega)
      have OF1 : wF.ownsRow ((w.heap.size + 1 + 1) + 1) 70 2 (.slice va2 ts2.length vc2) ts2.length (acells ts2) := by rw [hF]; exact own_box11 ME.out.o1 ME.out.r2
      have OF2 : wF.ownsRow ((w.heap.size + 1 + 1) + 1) 70 2 (.slice va5 ts5.length vc5) ts5.length (acells ts5) := by rw [hF]; exact own_box11 ME.out.o2 ME.out.r2
      have OF3 : wF.ownsRow ((w.heap.size + 1 + 1) + 1) 32 3 (.slice ua9 rs.length uc9) rs.length (rcells8 rs) := by
        rw [hF]
        exact own_later8 O5.out fun g _ hg _ => by
          have hne : g ≠ w.heap.size := by omega
          exact (Below.heap_setCell _ _ _ _ hne).trans (Below.heap_setCell _ _ _ _ hne)
      have LF : Below w.heap.size w wF := by rw [hF]; exact ME.out.low.trans (low_box11 _ _ _ (Nat.le_refl _))
      have hS6 : wF.heap[w2.heap.size]? = some (.cells #[.int .i64 c2, .slice va2 ts2.length vc2] 26) := by rw [hF]; exact heap_box11 hS.1 (by omega)
      have hS7 : wF.heap[w3.heap.size]? = some (.cells #[.int .i64 c5, .slice va5 ts5.length vc5] 26) := by rw [hF]; exact heap_box11 hS.2 (by omega)
      rw [← hF]
      clear hF hK hS e0 e1 k0 k1
      have HF := Lib.hid (And.intro r2 (And.intro r3 (And.intro OF1 (And.intro OF2 (And.intro OF3 LF)))))
      have hS := And.intro hS6 hS7
      clear hS6 hS7 r2 r3 OF1 OF2 OF3 LF O5
      refine wpAnyL_ready (rs := [5]) (by kernel_rfl) (by simp) ?_
      refine AllReadyL.cons rfl (fun K hK => ?_) AllReadyL.nil
      rw [if_pos (by rfl)]
      simp only [List.getElem_toArray, List.getElem_cons_succ, List.getElem_cons_zero]
      obtain ⟨⟨e0, e1⟩, k0, k1⟩ := blk2 HF.out.2.1
      go_wp2_with fail
      refine hK.out _ _ (fun _ => And.intro (heap_box11 hS.1 (by omega)) (heap_box11 hS.2 (by omega))) ?_
      obtain ⟨wG, hG⟩ : ∃ wG, wG = (wF.setCell ⟨w.heap.size + 1, 0, Option.none⟩ (.int .i64 c5)).setCell ⟨w.heap.size + 1, 1, Option.none⟩ (.slice va5 ts5.length vc5) := ⟨_, rfl⟩
      have r2 : wG.heap[w.heap.size]? = some (.cells #[.int .i64 c2, .slice va2 ts2.length vc2] 26) := by rw [hG]; exact heap_box11 HF.out.1 (by omega)
      have r3 : wG.heap[w.heap.size + 1]? = some (.cells #[.int .i64 c5, .slice va5 ts5.length vc5] 26) := by rw [hG]; exact two_at HF.out.2.1
      have OF1 : wG.ownsRow ((w.heap.size + 1 + 1) + 1) 70 2 (.slice va2 ts2.length vc2) ts2.length (acells ts2) := by rw [hG]; exact own_box11 HF.out.2.2.1 HF.out.2.1
      have OF2 : wG.ownsRow ((w.heap.size + 1 + 1) + 1) 70 2 (.slice va5 ts5.length vc5) ts5.length (acells ts5) := by rw [hG]; exact own_box11 HF.out.2.2.2.1 HF.out.2.1
      have OF3 : wG.ownsRow ((w.heap.size + 1 + 1) + 1) 32 3 (.slice ua9 rs.length uc9) rs.length (rcells8 rs) := by
        rw [hG]
        exact own_later8 HF.out.2.2.2.2.1 fun g _ hg _ => by
          have hne : g ≠ w.heap.size + 1 := by omega
          exact (Below.heap_setCell _ _ _ _ hne).trans (Below.heap_setCell _ _ _ _ hne)
      have LF : Below w.heap.size w wG := by rw [hG]; exact HF.out.2.2.2.2.2.trans (low_box11 _ _ _ (Nat.le_succ _))
      have hS6 : wG.heap[w2.heap.size]? = some (.cells #[.int .i64 c2, .slice va2 ts2.length vc2] 26) := by rw [hG]; exact heap_box11 hS.1 (by omega)
      have hS7 : wG.heap[w3.heap.size]? = some (.cells #[.int .i64 c5, .slice va5 ts5.length vc5] 26) := by rw [hG]; exact heap_box11 hS.2 (by omega)
      rw [← hG]
      clear hG hK hS e0 e1 k0 k1 HF
      have OO := Lib.hid (And.intro OF1 (And.intro OF2 (And.intro OF3 LF)))
      have hS := And.intro hS6 hS7
      obtain ⟨⟨x20, x21⟩, _⟩ := blk2 r2
      obtain ⟨⟨x30, x31⟩, _⟩ := blk2 r3
      clear hS6 hS7 r2 r3 OF1 OF2 OF3 LF
      refine wpAnyL_ready (rs := [6]) (by kernel_rfl) (by simp) ?_
      refine AllReadyL.cons rfl (fun K hK => ?_) AllReadyL.nil
      rw [if_pos (by rfl)]
      simp only [List.getElem_toArray, List.getElem_cons_succ, List.getElem_cons_zero]
      go_wp2_with fail
      refine hK.out _ _ (fun e => absurd rfl e) ?_
      clear hK
      refine wpAnyL_done (by kernel_rfl) ?_ _
      clear hS
      go_wp2
      exact bodyPost_ret (v := .tuple #[.agg #[.int .i64 c2, .slice va2 ts2.length vc2], .agg #[.int .i64 c5, .slice va5 ts5.length vc5], .slice ua9 rs.length uc9]) (by simp [results, Tryz.results6, go_sem, x20, x21, x30, x31]) rfl ⟨c2, ts2, c5, ts5, rs, _, _, _, rfl, ME.out.p1, ME.out.p2, P5.out, ownMono8 (by omega) OO.out.1, ownMono8 (by omega) OO.out.2.1, ownMono8 (by omega) OO.out.2.2.1, OO.out.2.2.2⟩
end Go.Proofs.YtjdpddcnogdekaaGreat
