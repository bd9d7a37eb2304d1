/-
  Texts in one: AstDrawS, AstStmts, AstCpyE.
-/
import Derived.Test.YtkhccpjkajhnpaaP04ofFnAsts
import Derived.Deep.AppendLies
/-
  The contract of l3DrawStmt, what l3Stmts makes one less deep being known.
-/
namespace Go.Proofs.Ytkhccpjkajhnpaa
open Go.RowKit Go.Lib
set_option linter.unusedSimpArgs false
set_option linter.unusedVariables false

theorem okK4 : ∀ z ∈ ([1, 2, 2, 3, 3, 4] : List Int), 1 ≤ z ∧ z ≤ 4 := by decide
theorem okNames3 : ∀ z ∈ ([⟨#[120]⟩, ⟨#[121]⟩, ⟨#[115]⟩] : List ByteArray), z.size ≤ 1 := by decide
theorem okLoop3 : ∀ z ∈ ([⟨#[105]⟩, ⟨#[106]⟩, ⟨#[107]⟩] : List ByteArray), z.size ≤ 1 := by decide
theorem hs_s (h : SH) (s : ByteArray) (hs : s.size ≤ 10) (h0 : h.s.size = 0) : hsize { h with s := s } ≤ hsize h + 10 := by simp only [hsize]; omega
theorem hs_1 (h : SH) (x : X) : hsize { h with x1 := x } ≤ hsize h + xsize x := by simp only [hsize]; omega
theorem hs_2 (h : SH) (x : X) : hsize { h with x2 := x } ≤ hsize h + xsize x := by simp only [hsize]; omega
theorem hs_3 (h : SH) (x : X) : hsize { h with x3 := x } ≤ hsize h + xsize x := by simp only [hsize]; omega
theorem hs_4 (h : SH) (x : X) : hsize { h with x4 := x } ≤ hsize h + xsize x := by simp only [hsize]; omega
theorem hs_zero (k : Int) : hsize (zeroS k) = 0 := by rfl
theorem lim0 : limD 0 = 4 := rfl
theorem lim1 : limD 1 = 12 := rfl
theorem lim2 : limD 2 = 28 := rfl
theorem there19 (w : World) (t : TypeId) : (w.alloc (.cells zero19 t)).there w.heap.size 0 19 := newthere w t
theorem lt_there19 {w : World} {n : Nat} (h : w.there n 0 19) : n + 1 ≤ w.heap.size := by
  obtain ⟨u, hu⟩ := Option.isSome_iff_exists.1 (h 0 (by omega)).1
  exact lt_of_cellA hu
theorem oneZ (k : Int) : (scells (zeroS k) nilS nilS nilS nilS nilS).toArray.all (·.oneCell') = true := oneS (zeroS k) nilS nilS nilS nilS nilS rfl rfl rfl rfl rfl
theorem VarS.start {B : Nat} {a : Option Addr} {len cap b : Nat} {w0 w1 W : World} {N : Nat} {k : Int} {t : TypeId} (hN : w0.heap.size = N) (hb : b < N) (d : Dw B a len cap b w1) (hw : Wr b w0 w1) (hth : w1.there N 0 19) (hW : (w1.alloc (.cells zero19 t)).setCells w1.heap.size 0 (scells (zeroS k) nilS nilS nilS nilS nilS) = W) :
    VarS B a len cap b w0 N w1.heap.size (zeroS k) .nil nilS nilS nilS nilS nilS W := by
  have hn := newblkS (zeroS k) nilS nilS nilS nilS nilS hW
  refine ⟨hn.1, by rw [← hW]; exact World.there_setCells (newthere w1 t) _ _ _, ⟨EVx.nil _ _ _ _ _, EVx.nil _ _ _ _ _, EVx.nil _ _ _ _ _, EVx.nil _ _ _ _ _⟩, SVx.nil _ _ _ _ _, d.later hn.2, hw.trans (.of_below hn.2), there_later hth hn.2, hN, by have := lt_there19 hth; omega, hb⟩
set_option maxHeartbeats 4000000 in
set_option maxRecDepth 100000 in
theorem l3DrawStmt_of (d : Nat) (hd : d ≤ 20) (B : Nat) (a : Option Addr) (len cap b lb : Nat)
    (ih : 1 ≤ d → ∀ w, Dw B a len cap b w → Calls Try.prog 26 #[.pointer (some ⟨b, 0, none⟩), .int .i64 ((d : Int) - 1), .int .i64 2] w (DrawnR B a len cap b lb w))
    (w : World) (hdw : Dw B a len cap b w) : Calls Try.prog 45 #[.pointer (some ⟨b, 0, none⟩), .int .i64 (d : Int)] w (DrawnS B a len cap b (100 + lb) w) := by
  have Hih := Lib.hid ih
  have HD := Lib.hid hdw
  have hbN := hdw.cur.lt
  have hdI : (d : Int) ≤ 20 := by omega
  clear ih hdw
  go_enter Try.func45, Try.ntmps45
  go_wp2_with fail
  have b0 := (alloc_below w (.cells zero19 30)).alloc (by simp) (.cells (([1, 2, 2, 3, 3, 4] : List Int).map (Value.int .i64)).toArray 3)
  have th0 : ((w.alloc (.cells zero19 30)).alloc (.cells (([1, 2, 2, 3, 3, 4] : List Int).map (Value.int .i64)).toArray 3)).there w.heap.size 0 19 := there_later (newthere w 30) (alloc_below _ _)
  refine (l1Int_is B a len cap b (w.heap.size + 1) 6 6 (fun z => 1 ≤ z ∧ z ≤ 4) _ (HD.out.later b0) (by omega) (by omega) (by omega) (fun j hj => ints_cell _ _ _ okK4 _ (by simp) j hj)).mono ?_
  rintro e w1 ⟨k, rfl, ⟨hk1, hk4⟩, d1, wr1⟩
  have D1 := Lib.hid (And.intro d1 (And.intro ((Wr.of_below b0).trans wr1) (there_wr th0 wr1 (by omega))))
  clear d1 wr1 b0 th0 HD
  by_cases h0 : d = 0
  · have hd0 : (d : Int) ≤ 0 := by omega
    obtain rfl | rfl | rfl | rfl : k = 1 ∨ k = 2 ∨ k = 3 ∨ k = 4 := by omega
    · clear h0 hk1 hk4
      go_wp2_with (refine store_abs rfl 30 _ _ rfl _ _ _ rfl rfl ?htp sizeIS ?hop ?_; exact (newthere w1 _); exact (oneZ 1); intro W hW; have V := Lib.hid (VarS.start (k := 1) rfl hbN D1.out.1 D1.out.2.1 D1.out.2.2 hW); clear hW)
      obtain ⟨n, hn⟩ : ∃ n, w1.heap.size = n := ⟨_, rfl⟩
      rw [hn] at V ⊢
      clear hn D1
      obtain ⟨h0, hz0, hs0, V0⟩ : ∃ h0 : SH, hsize h0 ≤ 0 ∧ h0.s.size = 0 ∧ Hid (VarS B a len cap b w w.heap.size n h0 .nil nilS nilS nilS nilS nilS W) := ⟨zeroS 1, Nat.le_of_eq (hs_zero _), rfl, V⟩
      clear V
      have b1 := alloc_below W (.cells (([⟨#[120]⟩, ⟨#[121]⟩, ⟨#[115]⟩] : List ByteArray).map Value.string).toArray 9)
      have U1 := Lib.hid (V0.out.later b1)
      go_wp2_with fail
      refine (l1Str_is B a len cap b W.heap.size 3 3 (fun z => z.size ≤ 1) _ U1.out.dw (by omega) (by omega) (by have := V0.out.lt; have := V0.out.hn; have := V0.out.hb; omega) (fun j hj => strs_cell _ _ _ okNames3 _ rfl j hj)).mono ?_
      rintro e w1 ⟨z1, rfl, hq1, d1, wr1⟩
      have T1 := Lib.hid (U1.out.step wr1 d1)
      obtain ⟨_, ⟨c1, f1⟩, _⟩ := T1.out.free
      obtain ⟨h1, hz1, V1⟩ : ∃ h1 : SH, hsize h1 ≤ hsize h0 + 10 ∧ Hid (VarS B a len cap b w w.heap.size n h1 .nil nilS nilS nilS nilS nilS (w1.setCell ⟨n, 1, Option.none⟩ (.string z1))) := ⟨_, hs_s h0 z1 (by omega) hs0, Lib.hid (T1.out.setS z1)⟩
      clear b1 U1 T1 d1 wr1 V0 hq1
      go_wp2_with fail
      refine (l3Draw_all B a len cap b 2 (by omega) _ V1.out.dw).mono ?_
      rintro e w2 ⟨x2, u2, rfl, g2, s2, d2, wr2⟩
      have T2 := Lib.hid (V1.out.step wr2 d2)
      have G2 := Lib.hid (V1.out.evx g2)
      have i2 := g2.isOne
      clear V1 d2 wr2 g2
      go_wp2_with (first | (refine store_abs rfl 26 _ _ rfl _ _ _ rfl rfl ?ht1p2 sizeIE2 ?ho1p2 ?_; exact (T2.out.part 6 (by omega)); exact (oneX x2 u2 i2); intro W2 hW; have V2 : Hid (VarS B a len cap b w w.heap.size n { h1 with x2 := x2 } .nil nilS u2 nilS nilS nilS W2) := Lib.hid (by rw [← hW]; exact T2.out.set2 G2.out); clear hW) | (refine wpList_load_mid rfl 30 _ rfl n 0 rfl _ _ V2.out.rg Try.underlying30 rfl sizeIS ?_) | (refine store_abs rfl 30 _ _ rfl _ _ _ rfl rfl ?hte1p sizeIS ?hoe1p ?_; exact V2.out.thN; exact (oneS { h1 with x2 := x2 } nilS u2 nilS nilS nilS V2.out.ex.e1.ev.isOne V2.out.ex.e2.ev.isOne V2.out.ex.e3.ev.isOne V2.out.ex.e4.ev.isOne V2.out.sx.sv.isOne); intro WE hW; have HC := Lib.hid (V2.out.close hW); clear hW))
      have hz2 := hs_2 h1 x2
      obtain ⟨h2, hh2⟩ : ∃ h2 : SH, h2 = { h1 with x2 := x2 } := ⟨_, rfl⟩
      rw [← hh2] at hz2
      rw [← hh2] at HC
      obtain ⟨rg, q1, q2, q3, q4⟩ := HC.out
      have hlv := run_loadVar_mid WE w.heap.size 0 _ _ _ rg Try.underlying30 rfl sizeIS
      refine bodyPost_ret (v := .agg (scells h2 nilS u2 nilS nilS nilS).toArray) ?_ rfl ⟨h2, .nil, nilS, u2, nilS, nilS, nilS, rfl, q1, q2, (by have := s2; have l0 := lim0; have l1 := lim1; have l2 := lim2; (try simp only [ssize]); omega), q3, q4, HVx.zero q1 (by omega), SO.nil _ _⟩
      simp [results, Try.results45, asAddr, hlv, Act.put]
      try rfl
    · clear h0 hk1 hk4
      go_wp2_with (refine store_abs rfl 30 _ _ rfl _ _ _ rfl rfl ?htq sizeIS ?hoq ?_; exact (newthere w1 _); exact (oneZ 2); intro W hW; have V := Lib.hid (VarS.start (k := 2) rfl hbN D1.out.1 D1.out.2.1 D1.out.2.2 hW); clear hW)
      obtain ⟨n, hn⟩ : ∃ n, w1.heap.size = n := ⟨_, rfl⟩
      rw [hn] at V ⊢
      clear hn D1
      obtain ⟨h0, hz0, hs0, V0⟩ : ∃ h0 : SH, hsize h0 ≤ 0 ∧ h0.s.size = 0 ∧ Hid (VarS B a len cap b w w.heap.size n h0 .nil nilS nilS nilS nilS nilS W) := ⟨zeroS 2, Nat.le_of_eq (hs_zero _), rfl, V⟩
      clear V
      have b1 := alloc_below W (.cells (([⟨#[97]⟩, ⟨#[98]⟩] : List ByteArray).map Value.string).toArray 9)
      have U1 := Lib.hid (V0.out.later b1)
      go_wp2_with fail
      refine (l1Str_is B a len cap b W.heap.size 2 2 (fun z => z.size ≤ 1) _ U1.out.dw (by omega) (by omega) (by have := V0.out.lt; have := V0.out.hn; have := V0.out.hb; omega) (fun j hj => strs_cell _ _ _ okNames2 _ rfl j hj)).mono ?_
      rintro e w1 ⟨z1, rfl, hq1, d1, wr1⟩
      have T1 := Lib.hid (U1.out.step wr1 d1)
      obtain ⟨_, ⟨c1, f1⟩, _⟩ := T1.out.free
      obtain ⟨h1, hz1, V1⟩ : ∃ h1 : SH, hsize h1 ≤ hsize h0 + 10 ∧ Hid (VarS B a len cap b w w.heap.size n h1 .nil nilS nilS nilS nilS nilS (w1.setCell ⟨n, 1, Option.none⟩ (.string z1))) := ⟨_, hs_s h0 z1 (by omega) hs0, Lib.hid (T1.out.setS z1)⟩
      clear b1 U1 T1 d1 wr1 V0 hq1
      go_wp2_with fail
      refine (l3Draw_all B a len cap b 1 (by omega) _ V1.out.dw).mono ?_
      rintro e w2 ⟨x2, u2, rfl, g2, s2, d2, wr2⟩
      have T2 := Lib.hid (V1.out.step wr2 d2)
      have G2 := Lib.hid (V1.out.evx g2)
      have i2 := g2.isOne
      clear V1 d2 wr2 g2
      go_wp2_with (refine store_abs rfl 26 _ _ rfl _ _ _ rfl rfl ?ht2q2 sizeIE2 ?ho2q2 ?_; exact (T2.out.part 2 (by omega)); exact (oneX x2 u2 i2); intro W2 hW; have V2 : Hid (VarS B a len cap b w w.heap.size n { h1 with x1 := x2 } .nil u2 nilS nilS nilS nilS W2) := Lib.hid (by rw [← hW]; exact T2.out.set1 G2.out); clear hW)
      obtain ⟨h2, hz2, V2⟩ : ∃ h2 : SH, hsize h2 ≤ hsize h1 + xsize x2 ∧ Hid (VarS B a len cap b w w.heap.size n h2 .nil u2 nilS nilS nilS nilS W2) := ⟨_, hs_1 h1 x2, V2⟩
      clear T2 G2 i2
      go_wp2_with fail
      refine (l3Draw_all B a len cap b 2 (by omega) _ V2.out.dw).mono ?_
      rintro e w3 ⟨x3, u3, rfl, g3, s3, d3, wr3⟩
      have T3 := Lib.hid (V2.out.step wr3 d3)
      have G3 := Lib.hid (V2.out.evx g3)
      have i3 := g3.isOne
      clear V2 d3 wr3 g3
      go_wp2_with (first | (refine store_abs rfl 26 _ _ rfl _ _ _ rfl rfl ?ht2q3 sizeIE2 ?ho2q3 ?_; exact (T3.out.part 6 (by omega)); exact (oneX x3 u3 i3); intro W3 hW; have V3 : Hid (VarS B a len cap b w w.heap.size n { h2 with x2 := x3 } .nil u2 u3 nilS nilS nilS W3) := Lib.hid (by rw [← hW]; exact T3.out.set2 G3.out); clear hW) | (refine wpList_load_mid rfl 30 _ rfl n 0 rfl _ _ V3.out.rg Try.underlying30 rfl sizeIS ?_) | (refine store_abs rfl 30 _ _ rfl _ _ _ rfl rfl ?hte2q sizeIS ?hoe2q ?_; exact V3.out.thN; exact (oneS { h2 with x2 := x3 } u2 u3 nilS nilS nilS V3.out.ex.e1.ev.isOne V3.out.ex.e2.ev.isOne V3.out.ex.e3.ev.isOne V3.out.ex.e4.ev.isOne V3.out.sx.sv.isOne); intro WE hW; have HC := Lib.hid (V3.out.close hW); clear hW))
      have hz3 := hs_2 h2 x3
      obtain ⟨h3, hh3⟩ : ∃ h3 : SH, h3 = { h2 with x2 := x3 } := ⟨_, rfl⟩
      rw [← hh3] at hz3
      rw [← hh3] at HC
      obtain ⟨rg, q1, q2, q3, q4⟩ := HC.out
      have hlv := run_loadVar_mid WE w.heap.size 0 _ _ _ rg Try.underlying30 rfl sizeIS
      refine bodyPost_ret (v := .agg (scells h3 u2 u3 nilS nilS nilS).toArray) ?_ rfl ⟨h3, .nil, u2, u3, nilS, nilS, nilS, rfl, q1, q2, (by have := s2; have := s3; have l0 := lim0; have l1 := lim1; have l2 := lim2; (try simp only [ssize]); omega), q3, q4, HVx.zero q1 (by omega), SO.nil _ _⟩
      simp [results, Try.results45, asAddr, hlv, Act.put]
      try rfl
    · clear h0 hk1 hk4
      go_wp2_with (refine store_abs rfl 30 _ _ rfl _ _ _ rfl rfl ?htr sizeIS ?hor ?_; exact (newthere w1 _); exact (oneZ 2); intro W hW; have V := Lib.hid (VarS.start (k := 2) rfl hbN D1.out.1 D1.out.2.1 D1.out.2.2 hW); clear hW)
      obtain ⟨n, hn⟩ : ∃ n, w1.heap.size = n := ⟨_, rfl⟩
      rw [hn] at V ⊢
      clear hn D1
      obtain ⟨h0, hz0, hs0, V0⟩ : ∃ h0 : SH, hsize h0 ≤ 0 ∧ h0.s.size = 0 ∧ Hid (VarS B a len cap b w w.heap.size n h0 .nil nilS nilS nilS nilS nilS W) := ⟨zeroS 2, Nat.le_of_eq (hs_zero _), rfl, V⟩
      clear V
      have b1 := alloc_below W (.cells (([⟨#[97]⟩, ⟨#[98]⟩] : List ByteArray).map Value.string).toArray 9)
      have U1 := Lib.hid (V0.out.later b1)
      go_wp2_with fail
      refine (l1Str_is B a len cap b W.heap.size 2 2 (fun z => z.size ≤ 1) _ U1.out.dw (by omega) (by omega) (by have := V0.out.lt; have := V0.out.hn; have := V0.out.hb; omega) (fun j hj => strs_cell _ _ _ okNames2 _ rfl j hj)).mono ?_
      rintro e w1 ⟨z1, rfl, hq1, d1, wr1⟩
      have T1 := Lib.hid (U1.out.step wr1 d1)
      obtain ⟨_, ⟨c1, f1⟩, _⟩ := T1.out.free
      obtain ⟨h1, hz1, V1⟩ : ∃ h1 : SH, hsize h1 ≤ hsize h0 + 10 ∧ Hid (VarS B a len cap b w w.heap.size n h1 .nil nilS nilS nilS nilS nilS (w1.setCell ⟨n, 1, Option.none⟩ (.string z1))) := ⟨_, hs_s h0 z1 (by omega) hs0, Lib.hid (T1.out.setS z1)⟩
      clear b1 U1 T1 d1 wr1 V0 hq1
      go_wp2_with fail
      refine (l3Draw_all B a len cap b 1 (by omega) _ V1.out.dw).mono ?_
      rintro e w2 ⟨x2, u2, rfl, g2, s2, d2, wr2⟩
      have T2 := Lib.hid (V1.out.step wr2 d2)
      have G2 := Lib.hid (V1.out.evx g2)
      have i2 := g2.isOne
      clear V1 d2 wr2 g2
      go_wp2_with (refine store_abs rfl 26 _ _ rfl _ _ _ rfl rfl ?ht2r2 sizeIE2 ?ho2r2 ?_; exact (T2.out.part 2 (by omega)); exact (oneX x2 u2 i2); intro W2 hW; have V2 : Hid (VarS B a len cap b w w.heap.size n { h1 with x1 := x2 } .nil u2 nilS nilS nilS nilS W2) := Lib.hid (by rw [← hW]; exact T2.out.set1 G2.out); clear hW)
      obtain ⟨h2, hz2, V2⟩ : ∃ h2 : SH, hsize h2 ≤ hsize h1 + xsize x2 ∧ Hid (VarS B a len cap b w w.heap.size n h2 .nil u2 nilS nilS nilS nilS W2) := ⟨_, hs_1 h1 x2, V2⟩
      clear T2 G2 i2
      go_wp2_with fail
      refine (l3Draw_all B a len cap b 2 (by omega) _ V2.out.dw).mono ?_
      rintro e w3 ⟨x3, u3, rfl, g3, s3, d3, wr3⟩
      have T3 := Lib.hid (V2.out.step wr3 d3)
      have G3 := Lib.hid (V2.out.evx g3)
      have i3 := g3.isOne
      clear V2 d3 wr3 g3
      go_wp2_with (first | (refine store_abs rfl 26 _ _ rfl _ _ _ rfl rfl ?ht2r3 sizeIE2 ?ho2r3 ?_; exact (T3.out.part 6 (by omega)); exact (oneX x3 u3 i3); intro W3 hW; have V3 : Hid (VarS B a len cap b w w.heap.size n { h2 with x2 := x3 } .nil u2 u3 nilS nilS nilS W3) := Lib.hid (by rw [← hW]; exact T3.out.set2 G3.out); clear hW) | (refine wpList_load_mid rfl 30 _ rfl n 0 rfl _ _ V3.out.rg Try.underlying30 rfl sizeIS ?_) | (refine store_abs rfl 30 _ _ rfl _ _ _ rfl rfl ?hte2r sizeIS ?hoe2r ?_; exact V3.out.thN; exact (oneS { h2 with x2 := x3 } u2 u3 nilS nilS nilS V3.out.ex.e1.ev.isOne V3.out.ex.e2.ev.isOne V3.out.ex.e3.ev.isOne V3.out.ex.e4.ev.isOne V3.out.sx.sv.isOne); intro WE hW; have HC := Lib.hid (V3.out.close hW); clear hW))
      have hz3 := hs_2 h2 x3
      obtain ⟨h3, hh3⟩ : ∃ h3 : SH, h3 = { h2 with x2 := x3 } := ⟨_, rfl⟩
      rw [← hh3] at hz3
      rw [← hh3] at HC
      obtain ⟨rg, q1, q2, q3, q4⟩ := HC.out
      have hlv := run_loadVar_mid WE w.heap.size 0 _ _ _ rg Try.underlying30 rfl sizeIS
      refine bodyPost_ret (v := .agg (scells h3 u2 u3 nilS nilS nilS).toArray) ?_ rfl ⟨h3, .nil, u2, u3, nilS, nilS, nilS, rfl, q1, q2, (by have := s2; have := s3; have l0 := lim0; have l1 := lim1; have l2 := lim2; (try simp only [ssize]); omega), q3, q4, HVx.zero q1 (by omega), SO.nil _ _⟩
      simp [results, Try.results45, asAddr, hlv, Act.put]
      try rfl
    · clear h0 hk1 hk4
      go_wp2_with (refine store_abs rfl 30 _ _ rfl _ _ _ rfl rfl ?hts sizeIS ?hos ?_; exact (newthere w1 _); exact (oneZ 4); intro W hW; have V := Lib.hid (VarS.start (k := 4) rfl hbN D1.out.1 D1.out.2.1 D1.out.2.2 hW); clear hW)
      obtain ⟨n, hn⟩ : ∃ n, w1.heap.size = n := ⟨_, rfl⟩
      rw [hn] at V ⊢
      clear hn D1
      obtain ⟨h0, hz0, hs0, V0⟩ : ∃ h0 : SH, hsize h0 ≤ 0 ∧ h0.s.size = 0 ∧ Hid (VarS B a len cap b w w.heap.size n h0 .nil nilS nilS nilS nilS nilS W) := ⟨zeroS 4, Nat.le_of_eq (hs_zero _), rfl, V⟩
      clear V
      go_wp2_with fail
      refine (l3Draw_all B a len cap b 2 (by omega) _ V0.out.dw).mono ?_
      rintro e w1 ⟨x1, u1, rfl, g1, s1, d1, wr1⟩
      have T1 := Lib.hid (V0.out.step wr1 d1)
      have G1 := Lib.hid (V0.out.evx g1)
      have i1 := g1.isOne
      clear V0 d1 wr1 g1
      go_wp2_with (first | (refine store_abs rfl 26 _ _ rfl _ _ _ rfl rfl ?ht4s1 sizeIE2 ?ho4s1 ?_; exact (T1.out.part 6 (by omega)); exact (oneX x1 u1 i1); intro W1 hW; have V1 : Hid (VarS B a len cap b w w.heap.size n { h0 with x2 := x1 } .nil nilS u1 nilS nilS nilS W1) := Lib.hid (by rw [← hW]; exact T1.out.set2 G1.out); clear hW) | (refine wpList_load_mid rfl 30 _ rfl n 0 rfl _ _ V1.out.rg Try.underlying30 rfl sizeIS ?_) | (refine store_abs rfl 30 _ _ rfl _ _ _ rfl rfl ?hte4s sizeIS ?hoe4s ?_; exact V1.out.thN; exact (oneS { h0 with x2 := x1 } nilS u1 nilS nilS nilS V1.out.ex.e1.ev.isOne V1.out.ex.e2.ev.isOne V1.out.ex.e3.ev.isOne V1.out.ex.e4.ev.isOne V1.out.sx.sv.isOne); intro WE hW; have HC := Lib.hid (V1.out.close hW); clear hW))
      have hz1 := hs_2 h0 x1
      obtain ⟨h1, hh1⟩ : ∃ h1 : SH, h1 = { h0 with x2 := x1 } := ⟨_, rfl⟩
      rw [← hh1] at hz1
      rw [← hh1] at HC
      obtain ⟨rg, q1, q2, q3, q4⟩ := HC.out
      have hlv := run_loadVar_mid WE w.heap.size 0 _ _ _ rg Try.underlying30 rfl sizeIS
      refine bodyPost_ret (v := .agg (scells h1 nilS u1 nilS nilS nilS).toArray) ?_ rfl ⟨h1, .nil, nilS, u1, nilS, nilS, nilS, rfl, q1, q2, (by have := s1; have l0 := lim0; have l1 := lim1; have l2 := lim2; (try simp only [ssize]); omega), q3, q4, HVx.zero q1 (by omega), SO.nil _ _⟩
      simp [results, Try.results45, asAddr, hlv, Act.put]
      try rfl
  · have hd0 : ¬ (d : Int) ≤ 0 := by omega
    have Hd1 : Hid (1 ≤ d) := Lib.hid (by omega)
    have hdw : IntKind.i64.wrap ((d : Int) - 1) = (d : Int) - 1 := wrap_small _ (by omega) (by omega)
    obtain rfl | rfl | rfl | rfl : k = 1 ∨ k = 2 ∨ k = 3 ∨ k = 4 := by omega
    · clear h0 hk1 hk4
      go_wp2_with (refine store_abs rfl 30 _ _ rfl _ _ _ rfl rfl ?htt sizeIS ?hot ?_; exact (newthere w1 _); exact (oneZ 1); intro W hW; have V := Lib.hid (VarS.start (k := 1) rfl hbN D1.out.1 D1.out.2.1 D1.out.2.2 hW); clear hW)
      obtain ⟨n, hn⟩ : ∃ n, w1.heap.size = n := ⟨_, rfl⟩
      rw [hn] at V ⊢
      clear hn D1
      obtain ⟨h0, hz0, hs0, V0⟩ : ∃ h0 : SH, hsize h0 ≤ 0 ∧ h0.s.size = 0 ∧ Hid (VarS B a len cap b w w.heap.size n h0 .nil nilS nilS nilS nilS nilS W) := ⟨zeroS 1, Nat.le_of_eq (hs_zero _), rfl, V⟩
      clear V
      have b1 := alloc_below W (.cells (([⟨#[120]⟩, ⟨#[121]⟩, ⟨#[115]⟩] : List ByteArray).map Value.string).toArray 9)
      have U1 := Lib.hid (V0.out.later b1)
      go_wp2_with fail
      refine (l1Str_is B a len cap b W.heap.size 3 3 (fun z => z.size ≤ 1) _ U1.out.dw (by omega) (by omega) (by have := V0.out.lt; have := V0.out.hn; have := V0.out.hb; omega) (fun j hj => strs_cell _ _ _ okNames3 _ rfl j hj)).mono ?_
      rintro e w1 ⟨z1, rfl, hq1, d1, wr1⟩
      have T1 := Lib.hid (U1.out.step wr1 d1)
      obtain ⟨_, ⟨c1, f1⟩, _⟩ := T1.out.free
      obtain ⟨h1, hz1, V1⟩ : ∃ h1 : SH, hsize h1 ≤ hsize h0 + 10 ∧ Hid (VarS B a len cap b w w.heap.size n h1 .nil nilS nilS nilS nilS nilS (w1.setCell ⟨n, 1, Option.none⟩ (.string z1))) := ⟨_, hs_s h0 z1 (by omega) hs0, Lib.hid (T1.out.setS z1)⟩
      clear b1 U1 T1 d1 wr1 V0 hq1
      go_wp2_with fail
      refine (l3Draw_all B a len cap b 2 (by omega) _ V1.out.dw).mono ?_
      rintro e w2 ⟨x2, u2, rfl, g2, s2, d2, wr2⟩
      have T2 := Lib.hid (V1.out.step wr2 d2)
      have G2 := Lib.hid (V1.out.evx g2)
      have i2 := g2.isOne
      clear V1 d2 wr2 g2
      go_wp2_with (first | (refine store_abs rfl 26 _ _ rfl _ _ _ rfl rfl ?ht1t2 sizeIE2 ?ho1t2 ?_; exact (T2.out.part 6 (by omega)); exact (oneX x2 u2 i2); intro W2 hW; have V2 : Hid (VarS B a len cap b w w.heap.size n { h1 with x2 := x2 } .nil nilS u2 nilS nilS nilS W2) := Lib.hid (by rw [← hW]; exact T2.out.set2 G2.out); clear hW) | (refine wpList_load_mid rfl 30 _ rfl n 0 rfl _ _ V2.out.rg Try.underlying30 rfl sizeIS ?_) | (refine store_abs rfl 30 _ _ rfl _ _ _ rfl rfl ?hte1t sizeIS ?hoe1t ?_; exact V2.out.thN; exact (oneS { h1 with x2 := x2 } nilS u2 nilS nilS nilS V2.out.ex.e1.ev.isOne V2.out.ex.e2.ev.isOne V2.out.ex.e3.ev.isOne V2.out.ex.e4.ev.isOne V2.out.sx.sv.isOne); intro WE hW; have HC := Lib.hid (V2.out.close hW); clear hW))
      have hz2 := hs_2 h1 x2
      obtain ⟨h2, hh2⟩ : ∃ h2 : SH, h2 = { h1 with x2 := x2 } := ⟨_, rfl⟩
      rw [← hh2] at hz2
      rw [← hh2] at HC
      obtain ⟨rg, q1, q2, q3, q4⟩ := HC.out
      have hlv := run_loadVar_mid WE w.heap.size 0 _ _ _ rg Try.underlying30 rfl sizeIS
      refine bodyPost_ret (v := .agg (scells h2 nilS u2 nilS nilS nilS).toArray) ?_ rfl ⟨h2, .nil, nilS, u2, nilS, nilS, nilS, rfl, q1, q2, (by have := s2; have l0 := lim0; have l1 := lim1; have l2 := lim2; (try simp only [ssize]); omega), q3, q4, HVx.zero q1 (by omega), SO.nil _ _⟩
      simp [results, Try.results45, asAddr, hlv, Act.put]
      try rfl
    · clear h0 hk1 hk4
      go_wp2_with (refine store_abs rfl 30 _ _ rfl _ _ _ rfl rfl ?htu sizeIS ?hou ?_; exact (newthere w1 _); exact (oneZ 2); intro W hW; have V := Lib.hid (VarS.start (k := 2) rfl hbN D1.out.1 D1.out.2.1 D1.out.2.2 hW); clear hW)
      obtain ⟨n, hn⟩ : ∃ n, w1.heap.size = n := ⟨_, rfl⟩
      rw [hn] at V ⊢
      clear hn D1
      obtain ⟨h0, hz0, hs0, V0⟩ : ∃ h0 : SH, hsize h0 ≤ 0 ∧ h0.s.size = 0 ∧ Hid (VarS B a len cap b w w.heap.size n h0 .nil nilS nilS nilS nilS nilS W) := ⟨zeroS 2, Nat.le_of_eq (hs_zero _), rfl, V⟩
      clear V
      have b1 := alloc_below W (.cells (([⟨#[97]⟩, ⟨#[98]⟩] : List ByteArray).map Value.string).toArray 9)
      have U1 := Lib.hid (V0.out.later b1)
      go_wp2_with fail
      refine (l1Str_is B a len cap b W.heap.size 2 2 (fun z => z.size ≤ 1) _ U1.out.dw (by omega) (by omega) (by have := V0.out.lt; have := V0.out.hn; have := V0.out.hb; omega) (fun j hj => strs_cell _ _ _ okNames2 _ rfl j hj)).mono ?_
      rintro e w1 ⟨z1, rfl, hq1, d1, wr1⟩
      have T1 := Lib.hid (U1.out.step wr1 d1)
      obtain ⟨_, ⟨c1, f1⟩, _⟩ := T1.out.free
      obtain ⟨h1, hz1, V1⟩ : ∃ h1 : SH, hsize h1 ≤ hsize h0 + 10 ∧ Hid (VarS B a len cap b w w.heap.size n h1 .nil nilS nilS nilS nilS nilS (w1.setCell ⟨n, 1, Option.none⟩ (.string z1))) := ⟨_, hs_s h0 z1 (by omega) hs0, Lib.hid (T1.out.setS z1)⟩
      clear b1 U1 T1 d1 wr1 V0 hq1
      go_wp2_with fail
      refine (l3Draw_all B a len cap b 1 (by omega) _ V1.out.dw).mono ?_
      rintro e w2 ⟨x2, u2, rfl, g2, s2, d2, wr2⟩
      have T2 := Lib.hid (V1.out.step wr2 d2)
      have G2 := Lib.hid (V1.out.evx g2)
      have i2 := g2.isOne
      clear V1 d2 wr2 g2
      go_wp2_with (refine store_abs rfl 26 _ _ rfl _ _ _ rfl rfl ?ht2u2 sizeIE2 ?ho2u2 ?_; exact (T2.out.part 2 (by omega)); exact (oneX x2 u2 i2); intro W2 hW; have V2 : Hid (VarS B a len cap b w w.heap.size n { h1 with x1 := x2 } .nil u2 nilS nilS nilS nilS W2) := Lib.hid (by rw [← hW]; exact T2.out.set1 G2.out); clear hW)
      obtain ⟨h2, hz2, V2⟩ : ∃ h2 : SH, hsize h2 ≤ hsize h1 + xsize x2 ∧ Hid (VarS B a len cap b w w.heap.size n h2 .nil u2 nilS nilS nilS nilS W2) := ⟨_, hs_1 h1 x2, V2⟩
      clear T2 G2 i2
      go_wp2_with fail
      refine (l3Draw_all B a len cap b 2 (by omega) _ V2.out.dw).mono ?_
      rintro e w3 ⟨x3, u3, rfl, g3, s3, d3, wr3⟩
      have T3 := Lib.hid (V2.out.step wr3 d3)
      have G3 := Lib.hid (V2.out.evx g3)
      have i3 := g3.isOne
      clear V2 d3 wr3 g3
      go_wp2_with (first | (refine store_abs rfl 26 _ _ rfl _ _ _ rfl rfl ?ht2u3 sizeIE2 ?ho2u3 ?_; exact (T3.out.part 6 (by omega)); exact (oneX x3 u3 i3); intro W3 hW; have V3 : Hid (VarS B a len cap b w w.heap.size n { h2 with x2 := x3 } .nil u2 u3 nilS nilS nilS W3) := Lib.hid (by rw [← hW]; exact T3.out.set2 G3.out); clear hW) | (refine wpList_load_mid rfl 30 _ rfl n 0 rfl _ _ V3.out.rg Try.underlying30 rfl sizeIS ?_) | (refine store_abs rfl 30 _ _ rfl _ _ _ rfl rfl ?hte2u sizeIS ?hoe2u ?_; exact V3.out.thN; exact (oneS { h2 with x2 := x3 } u2 u3 nilS nilS nilS V3.out.ex.e1.ev.isOne V3.out.ex.e2.ev.isOne V3.out.ex.e3.ev.isOne V3.out.ex.e4.ev.isOne V3.out.sx.sv.isOne); intro WE hW; have HC := Lib.hid (V3.out.close hW); clear hW))
      have hz3 := hs_2 h2 x3
      obtain ⟨h3, hh3⟩ : ∃ h3 : SH, h3 = { h2 with x2 := x3 } := ⟨_, rfl⟩
      rw [← hh3] at hz3
      rw [← hh3] at HC
      obtain ⟨rg, q1, q2, q3, q4⟩ := HC.out
      have hlv := run_loadVar_mid WE w.heap.size 0 _ _ _ rg Try.underlying30 rfl sizeIS
      refine bodyPost_ret (v := .agg (scells h3 u2 u3 nilS nilS nilS).toArray) ?_ rfl ⟨h3, .nil, u2, u3, nilS, nilS, nilS, rfl, q1, q2, (by have := s2; have := s3; have l0 := lim0; have l1 := lim1; have l2 := lim2; (try simp only [ssize]); omega), q3, q4, HVx.zero q1 (by omega), SO.nil _ _⟩
      simp [results, Try.results45, asAddr, hlv, Act.put]
      try rfl
    · clear h0 hk1 hk4
      go_wp2_with (refine store_abs rfl 30 _ _ rfl _ _ _ rfl rfl ?htv sizeIS ?hov ?_; exact (newthere w1 _); exact (oneZ 3); intro W hW; have V := Lib.hid (VarS.start (k := 3) rfl hbN D1.out.1 D1.out.2.1 D1.out.2.2 hW); clear hW)
      obtain ⟨n, hn⟩ : ∃ n, w1.heap.size = n := ⟨_, rfl⟩
      rw [hn] at V ⊢
      clear hn D1
      obtain ⟨h0, hz0, hs0, V0⟩ : ∃ h0 : SH, hsize h0 ≤ 0 ∧ h0.s.size = 0 ∧ Hid (VarS B a len cap b w w.heap.size n h0 .nil nilS nilS nilS nilS nilS W) := ⟨zeroS 3, Nat.le_of_eq (hs_zero _), rfl, V⟩
      clear V
      have b1 := alloc_below W (.cells (([⟨#[105]⟩, ⟨#[106]⟩, ⟨#[107]⟩] : List ByteArray).map Value.string).toArray 9)
      have U1 := Lib.hid (V0.out.later b1)
      have S1 : Hid (∀ j, j < 3 → ∃ z : ByteArray, (W.alloc (.cells (([⟨#[105]⟩, ⟨#[106]⟩, ⟨#[107]⟩] : List ByteArray).map Value.string).toArray 9)).cell? ⟨W.heap.size, j, none⟩ = some (.string z) ∧ z.size ≤ 1) := Lib.hid (fun j hj => strs_cell _ _ _ okLoop3 _ rfl j hj)
      have hcb1 : W.heap.size ≠ b := by have := V0.out.lt; have := V0.out.hn; have := V0.out.hb; omega
      go_wp2_with fail
      refine (l1Below_is B a len cap b 3 _ U1.out.dw (by omega)).mono ?_
      rintro e w1 ⟨y1, rfl, ⟨y0, y1⟩, d1, wr1⟩
      obtain ⟨m1, rfl⟩ := Int.eq_ofNat_of_zero_le y0
      obtain ⟨z1, hc1, hq1⟩ := S1.out m1 (by omega)
      have hcc : w1.cell? ⟨W.heap.size, m1, none⟩ = some (.string z1) := by rw [World.cell?_of_block (a := ⟨W.heap.size, m1, none⟩) (wr1.block _ (lt_of_cellA hc1) hcb1)]; exact hc1
      have T1 := Lib.hid (U1.out.step wr1 d1)
      obtain ⟨_, ⟨c1, f1⟩, _⟩ := T1.out.free
      obtain ⟨h1, hz1, V1⟩ : ∃ h1 : SH, hsize h1 ≤ hsize h0 + 10 ∧ Hid (VarS B a len cap b w w.heap.size n h1 .nil nilS nilS nilS nilS nilS (w1.setCell ⟨n, 1, Option.none⟩ (.string z1))) := ⟨_, hs_s h0 z1 (by omega) hs0, Lib.hid (T1.out.setS z1)⟩
      clear b1 U1 T1 d1 wr1 V0 hq1 S1 hc1
      go_wp2_with fail
      refine (l3Draw_all B a len cap b 0 (by omega) _ V1.out.dw).mono ?_
      rintro e w2 ⟨x2, u2, rfl, g2, s2, d2, wr2⟩
      have T2 := Lib.hid (V1.out.step wr2 d2)
      have G2 := Lib.hid (V1.out.evx g2)
      have i2 := g2.isOne
      clear V1 d2 wr2 g2
      go_wp2_with (refine store_abs rfl 26 _ _ rfl _ _ _ rfl rfl ?ht3v2 sizeIE2 ?ho3v2 ?_; exact (T2.out.part 10 (by omega)); exact (oneX x2 u2 i2); intro W2 hW; have V2 : Hid (VarS B a len cap b w w.heap.size n { h1 with x3 := x2 } .nil nilS nilS u2 nilS nilS W2) := Lib.hid (by rw [← hW]; exact T2.out.set3 G2.out); clear hW)
      obtain ⟨h2, hz2, V2⟩ : ∃ h2 : SH, hsize h2 ≤ hsize h1 + xsize x2 ∧ Hid (VarS B a len cap b w w.heap.size n h2 .nil nilS nilS u2 nilS nilS W2) := ⟨_, hs_3 h1 x2, V2⟩
      clear T2 G2 i2
      go_wp2_with fail
      refine (l3Draw_all B a len cap b 1 (by omega) _ V2.out.dw).mono ?_
      rintro e w3 ⟨x3, u3, rfl, g3, s3, d3, wr3⟩
      have T3 := Lib.hid (V2.out.step wr3 d3)
      have G3 := Lib.hid (V2.out.evx g3)
      have i3 := g3.isOne
      clear V2 d3 wr3 g3
      go_wp2_with (refine store_abs rfl 26 _ _ rfl _ _ _ rfl rfl ?ht3v3 sizeIE2 ?ho3v3 ?_; exact (T3.out.part 14 (by omega)); exact (oneX x3 u3 i3); intro W3 hW; have V3 : Hid (VarS B a len cap b w w.heap.size n { h2 with x4 := x3 } .nil nilS nilS u2 u3 nilS W3) := Lib.hid (by rw [← hW]; exact T3.out.set4 G3.out); clear hW)
      obtain ⟨h3, hz3, V3⟩ : ∃ h3 : SH, hsize h3 ≤ hsize h2 + xsize x3 ∧ Hid (VarS B a len cap b w w.heap.size n h3 .nil nilS nilS u2 u3 nilS W3) := ⟨_, hs_4 h2 x3, V3⟩
      clear T3 G3 i3
      go_wp2_with fail
      refine (Hih.out Hd1.out _ V3.out.dw).mono ?_
      rintro e w4 ⟨F4, u4, rfl, g4, s4, d4, wr4, o4⟩
      have O4 := Lib.hid (And.intro o4 (And.intro wr4 (And.intro V3.out.ex V3.out.lt)))
      have T4 := Lib.hid (V3.out.step wr4 d4)
      have G4 := Lib.hid (V3.out.svx g4)
      obtain ⟨ua, uc, rfl⟩ := g4.shape
      obtain ⟨_, _, c18, f18⟩ := T4.out.free
      have V4 : Hid (VarS B a len cap b w w.heap.size n h3 F4 nilS nilS u2 u3 (.slice ua (slen F4) uc) (w4.setCell ⟨n, 18, Option.none⟩ (.slice ua (slen F4) uc))) := Lib.hid (T4.out.setB G4.out)
      obtain ⟨h4, hz4⟩ : ∃ h4, h4 = h3 := ⟨_, rfl⟩
      rw [← hz4] at V4
      have hzz := hz4
      replace hz4 : hsize h4 ≤ hsize h3 := by rw [hz4]; exact Nat.le_refl _
      clear V3 d4 wr4 g4 T4 G4 o4
      go_wp2_with (first | (refine wpList_load_mid rfl 30 _ rfl n 0 rfl _ _ V4.out.rg Try.underlying30 rfl sizeIS ?_) | (refine store_abs rfl 30 _ _ rfl _ _ _ rfl rfl ?hte3v sizeIS ?hoe3v ?_; exact V4.out.thN; exact (oneS h4 nilS nilS u2 u3 (.slice ua (slen F4) uc) V4.out.ex.e1.ev.isOne V4.out.ex.e2.ev.isOne V4.out.ex.e3.ev.isOne V4.out.ex.e4.ev.isOne V4.out.sx.sv.isOne); intro WE hW; have HC := Lib.hid (V4.out.close hW); have HK := Lib.hid (keep2 hW); have HH := Lib.hid (heap2 hW O4.out.2.2.2 (by have := O4.out.2.2.2; have := V4.out.hn; omega)); clear hW))
      obtain ⟨rg, q1, q2, q3, q4⟩ := HC.out
      have hlv := run_loadVar_mid WE w.heap.size 0 _ _ _ rg Try.underlying30 rfl sizeIS
      refine bodyPost_ret (v := .agg (scells h4 nilS nilS u2 u3 (.slice ua (slen F4) uc)).toArray) ?_ rfl ⟨h4, F4, nilS, nilS, u2, u3, (.slice ua (slen F4) uc), rfl, q1, q2, (by have := s2; have := s3; have := s4; have l0 := lim0; have l1 := lim1; have l2 := lim2; (try simp only [ssize]); omega), q3, q4, ?_, ?_⟩
      rotate_left
      · rw [hzz]; exact (HVx.end O4.out.2.2.1 O4.out.2.1 hbN O4.out.1.gOf HK.out)
      · exact O4.out.1.low (by have := O4.out.2.2.2; have := V4.out.hn; omega) HH.out
      simp [results, Try.results45, asAddr, hlv, Act.put]
      try rfl
    · clear h0 hk1 hk4
      go_wp2_with (refine store_abs rfl 30 _ _ rfl _ _ _ rfl rfl ?htx sizeIS ?hox ?_; exact (newthere w1 _); exact (oneZ 4); intro W hW; have V := Lib.hid (VarS.start (k := 4) rfl hbN D1.out.1 D1.out.2.1 D1.out.2.2 hW); clear hW)
      obtain ⟨n, hn⟩ : ∃ n, w1.heap.size = n := ⟨_, rfl⟩
      rw [hn] at V ⊢
      clear hn D1
      obtain ⟨h0, hz0, hs0, V0⟩ : ∃ h0 : SH, hsize h0 ≤ 0 ∧ h0.s.size = 0 ∧ Hid (VarS B a len cap b w w.heap.size n h0 .nil nilS nilS nilS nilS nilS W) := ⟨zeroS 4, Nat.le_of_eq (hs_zero _), rfl, V⟩
      clear V
      go_wp2_with fail
      refine (l3Draw_all B a len cap b 2 (by omega) _ V0.out.dw).mono ?_
      rintro e w1 ⟨x1, u1, rfl, g1, s1, d1, wr1⟩
      have T1 := Lib.hid (V0.out.step wr1 d1)
      have G1 := Lib.hid (V0.out.evx g1)
      have i1 := g1.isOne
      clear V0 d1 wr1 g1
      go_wp2_with (first | (refine store_abs rfl 26 _ _ rfl _ _ _ rfl rfl ?ht4x1 sizeIE2 ?ho4x1 ?_; exact (T1.out.part 6 (by omega)); exact (oneX x1 u1 i1); intro W1 hW; have V1 : Hid (VarS B a len cap b w w.heap.size n { h0 with x2 := x1 } .nil nilS u1 nilS nilS nilS W1) := Lib.hid (by rw [← hW]; exact T1.out.set2 G1.out); clear hW) | (refine wpList_load_mid rfl 30 _ rfl n 0 rfl _ _ V1.out.rg Try.underlying30 rfl sizeIS ?_) | (refine store_abs rfl 30 _ _ rfl _ _ _ rfl rfl ?hte4x sizeIS ?hoe4x ?_; exact V1.out.thN; exact (oneS { h0 with x2 := x1 } nilS u1 nilS nilS nilS V1.out.ex.e1.ev.isOne V1.out.ex.e2.ev.isOne V1.out.ex.e3.ev.isOne V1.out.ex.e4.ev.isOne V1.out.sx.sv.isOne); intro WE hW; have HC := Lib.hid (V1.out.close hW); clear hW))
      have hz1 := hs_2 h0 x1
      obtain ⟨h1, hh1⟩ : ∃ h1 : SH, h1 = { h0 with x2 := x1 } := ⟨_, rfl⟩
      rw [← hh1] at hz1
      rw [← hh1] at HC
      obtain ⟨rg, q1, q2, q3, q4⟩ := HC.out
      have hlv := run_loadVar_mid WE w.heap.size 0 _ _ _ rg Try.underlying30 rfl sizeIS
      refine bodyPost_ret (v := .agg (scells h1 nilS u1 nilS nilS nilS).toArray) ?_ rfl ⟨h1, .nil, nilS, u1, nilS, nilS, nilS, rfl, q1, q2, (by have := s1; have l0 := lim0; have l1 := lim1; have l2 := lim2; (try simp only [ssize]); omega), q3, q4, HVx.zero q1 (by omega), SO.nil _ _⟩
      simp [results, Try.results45, asAddr, hlv, Act.put]
      try rfl
end Go.Proofs.Ytkhccpjkajhnpaa
/-
  The contracts of l3Stmts and, with it, of l3DrawStmt.
-/
namespace Go.Proofs.Ytkhccpjkajhnpaa
open Go.RowKit Go.Lib
set_option linter.unusedSimpArgs false
set_option linter.unusedVariables false

theorem new_rangeS (w : World) (arr : Array Value) (t : TypeId) : (w.alloc (.cells arr t)).rangeAt w.heap.size 0 arr.toList := blk_range (t := t) (fr := (0, 0)) (by show (w.heap.push _)[w.heap.size]? = _; simp)
theorem newsN (w : World) (cs : List Value) (t : TypeId) : ∀ j u, cs[j]? = some u → (w.alloc (.cells cs.toArray t)).cell? ((⟨w.heap.size, 0, Option.none⟩ : Addr).add j) = some u := fun j u hj => by
  have := new_rangeS w cs.toArray t j u (by simpa using hj)
  rw [Nat.zero_add] at this
  rw [Go.WideShapes.add_plain, Nat.zero_add]
  exact this
theorem ssize_app : ∀ (P R : SF), ssize (sapp P R) = ssize P + ssize R
  | .nil, R => by simp [sapp, ssize]
  | .node _ _ h l r, R => by have := ssize_app r R; simp only [sapp, ssize]; omega
/-- Between two rounds. -/
structure Sts (B : Nat) (a : Option Addr) (len cap b : Nat) (w : World) (N : Nat) (P : SF) (xs : List Value) (t : Value) (wr : World) : Prop where
  own : wr.ownsRow N 30 19 t (slen P) xs
  row : SRx (gOf t) wr N P xs
  dw : Dw B a len cap b wr
  wr : Wr b w wr
  hN : w.heap.size = N
  hb : b < N
theorem Sts.glt {B : Nat} {a : Option Addr} {len cap b : Nat} {w : World} {N : Nat} {P : SF} {xs : List Value} {t : Value} {wr : World} (s : Sts B a len cap b w N P xs t wr) : gOf t < wr.heap.size := by
  unfold gOf
  cases h : t.ownBlock with
  | none => have := s.dw.cur.lt; simp only [Option.getD_none]; omega
  | some g => exact (s.own.lt g h).2
theorem Sts.step {B : Nat} {a : Option Addr} {len cap b : Nat} {w : World} {N : Nat} {P : SF} {xs : List Value} {t : Value} {wr w' : World} (s : Sts B a len cap b w N P xs t wr) (hw : Wr b wr w') (d : Dw B a len cap b w') : Sts B a len cap b w N P xs t w' :=
  ⟨own_wr s.own hw s.hb, s.row.step (fun _ _ e => e.wr hw (by have := s.hb; omega)) (fun _ _ e => e.wr hw (by have := s.hb; omega)), d, s.wr.trans hw, s.hN, s.hb⟩
/-- One more behind those that were drawn. -/
theorem Sts.next {B : Nat} {a : Option Addr} {len cap b : Nat} {w : World} {N g c p q : Nat} {P : SF} {xs : List Value} {t : Value} {wr w1 w6 : World} {h : SH} {l : SF} {v1 v2 v3 v4 v : Value} (s : Sts B a len cap b w N P xs t w1) (hg0 : gOf t < wr.heap.size) (hwr : N ≤ wr.heap.size) (he : HV w1 wr.heap.size h v1 v2 v3 v4) (hs : SV w1 wr.heap.size l v)
    (hown : w6.ownsRow N 30 19 (.slice (some ⟨g, 0, Option.none⟩) (slen P + 1) c) (slen P + 1) (xs ++ scells h v1 v2 v3 v4 v)) {o : Obj} (hg : (w1.alloc o).grownBy w6 t.ownBlock) (hat : t.ownBlock = some g ∨ w1.heap.size + 1 ≤ g) :
    Sts B a len cap b w N (sapp P (.node p q h l .nil)) (xs ++ scells h v1 v2 v3 v4 v) (.slice (some ⟨g, 0, Option.none⟩) (slen P + 1) c) w6 := by
  have hb1 := alloc_below w1 o
  have hN1 : N ≤ w1.heap.size := by have := s.wr.size; have := s.hN; omega
  have hBel : Below N w1 w6 := (hb1.mono hN1).grown hg (by simp; omega) (fun k hk => (s.own.lt k hk).1)
  have hel : slen (sapp P (.node p q h l .nil)) = slen P + 1 := by rw [slen_app]; rfl
  have hat' : t.ownBlock = some g ∨ (w1.alloc o).heap.size ≤ g := by rcases hat with e | e; exact .inl e; exact .inr (by simp; exact e)
  have fE : ∀ (F : EF) (z : Value), EVx (gOf t) w1 N F z → EVx g w6 N F z := fun F z hz => (hz.later hb1).grow (by have := s.hb; omega) hg hat'
  have fS : ∀ (F : SF) (z : Value), SVx (gOf t) w1 N F z → SVx g w6 N F z := fun F z hz => (hz.step (fun a u _ _ hc => keeps hb1 hc)).grow hg hat'
  refine ⟨by rw [hel]; exact hown, ?_, ⟨s.dw.hlen, s.dw.hB, s.dw.hC.later (hBel.mono (by have := s.dw.hB; have := s.hb; omega)), s.dw.cur.later (hBel.block b s.hb)⟩, ?_, s.hN, s.hb⟩
  · exact (s.row.step fE fS).app ⟨v1, v2, v3, v4, v, [], by rw [List.append_nil], ⟨fE _ _ (EVx.fresh he.e1 hwr hg0), fE _ _ (EVx.fresh he.e2 hwr hg0), fE _ _ (EVx.fresh he.e3 hwr hg0), fE _ _ (EVx.fresh he.e4 hwr hg0)⟩, fS _ _ (SVx.fresh hs hwr hg0), rfl⟩
  · exact ⟨hBel.os.trans s.wr.os, hBel.tape.trans s.wr.tape, hBel.output.trans s.wr.output, Nat.le_trans s.wr.size hBel.size, fun k hk hne => (hBel.block k (by have := s.hN; omega)).trans (s.wr.block k hk hne)⟩
/-- The row that was drawn. -/
theorem Sts.so {B : Nat} {a : Option Addr} {len cap b : Nat} {w : World} {N : Nat} {P : SF} {xs : List Value} {t : Value} {wr : World} (s : Sts B a len cap b w N P xs t wr) : SO wr N P t := ⟨xs, s.own, s.row⟩
theorem infoIS2 : (Try.prog.info? 30).map (fun i => (i.zero, i.size, i.bytes)) = some (some (.agg zero19), 19, 272) := by kernel_rfl
theorem ones19 {h : SH} {v1 v2 v3 v4 v : Value} {w : World} {lo : Nat} {l : SF} (he : HV w lo h v1 v2 v3 v4) (hs : SV w lo l v) : ∀ u ∈ scells h v1 v2 v3 v4 v, u.oneCell' = true := fun u hu => by
  have := oneS h v1 v2 v3 v4 v he.e1.isOne he.e2.isOne he.e3.isOne he.e4.isOne hs.isOne
  rw [Array.all_eq_true'] at this
  exact this u (by simpa using hu)
set_option maxHeartbeats 1000000 in
set_option maxRecDepth 100000 in
theorem l3Stmts_of (d : Nat) (hd : d ≤ 20) (B : Nat) (a : Option Addr) (len cap b lim : Nat)
    (ih : ∀ w, Dw B a len cap b w → Calls Try.prog 45 #[.pointer (some ⟨b, 0, none⟩), .int .i64 (d : Int)] w (DrawnS B a len cap b lim w))
    (most : Nat) (hm0 : 0 < most) (hm : most ≤ 100) (w : World) (hdw : Dw B a len cap b w) : Calls Try.prog 26 #[.pointer (some ⟨b, 0, none⟩), .int .i64 (d : Int), .int .i64 (most : Int)] w (DrawnR B a len cap b (most * (lim + 1)) w) := by
  obtain ⟨i0, hi, hz0, hz1, hz2⟩ := info_parts infoIS2
  have Hih := Lib.hid ih
  have HD := Lib.hid hdw
  have hbN := hdw.cur.lt
  clear ih hdw
  go_enter Try.func26, Try.ntmps26
  go_wp2_with fail
  have b0 := alloc_below w (.cells #[] 30)
  refine (l1Below_is B a len cap b (most : Int) _ (HD.out.later b0) (by omega)).mono ?_
  rintro e w1 ⟨x, rfl, ⟨x0, x1⟩, d1, wr1⟩
  obtain ⟨y, rfl⟩ := Int.eq_ofNat_of_zero_le x0
  have S0 : Hid (Sts B a len cap b w w.heap.size .nil [] (.slice (some ⟨w.heap.size, 0, Option.none⟩) 0 0) w1) := Lib.hid ⟨own_wr ⟨rfl, .inr ⟨w.heap.size, 0, #[], rfl, Nat.le_refl _, by show (w.heap.push _)[w.heap.size]? = _; simp, Nat.le_refl _, by unfold maxLen; omega, rfl, rfl⟩⟩ wr1 hbN, rfl, d1, (Wr.of_below b0).trans wr1, rfl, hbN⟩
  have hyI : (y : Int) < 100 := by omega
  have hyw : IntKind.i64.wrap (1 + (y : Int)) = 1 + (y : Int) := wrap_small _ (by omega) (by omega)
  clear d1 wr1 b0 HD
  go_wp2
  go_loopw [7, 8] (fun t i wr => ∃ (P : SF) (xs : List Value) (j : Nat), i = .int .i64 (j : Int) ∧ j ≤ 101 ∧ slen P ≤ 1000 - j ∧ Hid (ssize P + j * (lim + 1) ≤ most * (lim + 1)) ∧ Hid (Sts B a len cap b w w.heap.size P xs t wr)) (fun _ i _ => (RowKit.intOf i).toNat)
  case atStart => exact ⟨.nil, [], y + 1, by go_num, by omega, by simp [slen], Lib.hid (by simp only [ssize]; rw [Nat.zero_add]; exact Nat.mul_le_mul_right _ (by omega)), S0⟩
  case round =>
    obtain ⟨P, xs, j, rfl, hj, hlen, hz, hS⟩ := hrel
    clear S0
    cases j with
    | zero =>
      go_wp2
      go_ret
      exact ⟨P, _, rfl, hS.out.so.sv, by have := hz.out; omega, hS.out.dw, hS.out.wr, hS.out.so⟩
    | succ j =>
      have hjI : (0 : Int) < ((j + 1 : Nat) : Int) := by omega
      have hjJ : (0 : Int) < (j : Int) + 1 := by omega
      have hgl := hS.out.glt
      have hsz := hS.out.wr.size
      obtain ⟨ta, tc, rfl⟩ := ownShape' hS.out.own
      go_wp2_with fail
      refine (Hih.out _ hS.out.dw).mono ?_
      rintro e w2 ⟨h, l, v1, v2, v3, v4, v, hret, he, hs, hlim, d2, wr2, _⟩
      obtain rfl : e = .returned (sagg h v1 v2 v3 v4 v) := hret
      have S2 := Lib.hid (hS.out.step wr2 d2)
      have HE := Lib.hid (And.intro he hs)
      have hw2 := wr2.size
      obtain ⟨va, vc, rfl⟩ := hs.shape
      obtain ⟨a1, e1, rfl⟩ := he.e1.shape
      obtain ⟨a2, e2, rfl⟩ := he.e2.shape
      obtain ⟨a3, e3, rfl⟩ := he.e3.shape
      obtain ⟨a4, e4, rfl⟩ := he.e4.shape
      clear he hs d2 wr2
      go_wp2_with (at_builtin; refine wpList_append_lies _ rfl _ _ 28 rfl w.heap.size 30 i0 _ 19 272 Try.underlying28 hi hz0 hz1 hz2 rfl (by decide) _ _ _ rfl (S2.out.own.alloc _) ⟨w2.heap.size, 0, Option.none⟩ 1 1 (scells h (.slice a1 (elen h.x1.l) e1) (.slice a2 (elen h.x2.l) e2) (.slice a3 (elen h.x3.l) e3) (.slice a4 (elen h.x4.l) e4) (.slice va (slen l) vc)) rfl rfl ?c1 ?c2 (by decide) ?c3 ?c4 ?c5 (w2.heap.size + 1) ?c6 ?_)
      case c1 => exact newsN _ _ _
      case c2 => exact ones19 HE.out.1 HE.out.2
      case c3 => unfold maxLen; omega
      case c4 => omega
      case c5 => simp; omega
      case c6 => simp
      intro g c6 w6 hown6 hgrow6 hat6 hlt6
      have S6 := Lib.hid (S2.out.next (p := 0) (q := 0) (wr := wr) hgl (by omega) HE.out.1 HE.out.2 hown6 hgrow6 (by rcases hat6 with e | e; exact .inl e; exact .inr (by omega)))
      have hjw : IntKind.i64.wrap (j : Int) = (j : Int) := wrap_small _ (by omega) (by omega)
      clear hown6 hgrow6 hat6 S2 HE
      go_wp2
      go_roundw
      case rel => exact ⟨sapp P (.node 0 0 h l .nil), _, j, by first | rfl | go_num, by omega, by rw [slen_app]; simp only [slen]; omega, Lib.hid (by rw [ssize_app]; simp only [ssize]; have := hz.out; rw [Nat.succ_mul] at this; omega), S6⟩
      case measure => first | (simp [RowKit.intOf]; done) | (simp [RowKit.intOf]; omega)
def limS : Nat → Nat
  | 0 => 100
  | d + 1 => 100 + 2 * (limS d + 1)
theorem l3DrawStmt_all (B : Nat) (a : Option Addr) (len cap b : Nat) : ∀ (d : Nat), d ≤ 20 → ∀ (w : World), Dw B a len cap b w → Calls Try.prog 45 #[.pointer (some ⟨b, 0, none⟩), .int .i64 (d : Int)] w (DrawnS B a len cap b (limS d) w)
  | 0, hd, w, h => l3DrawStmt_of 0 hd B a len cap b 0 (fun h => absurd h (by omega)) w h
  | d + 1, hd, w, h => l3DrawStmt_of (d + 1) hd B a len cap b (2 * (limS d + 1)) (fun _ w h => by
      rw [show ((d + 1 : Nat) : Int) - 1 = (d : Int) by omega]
      exact l3Stmts_of d (by omega) B a len cap b (limS d) (fun w h => l3DrawStmt_all B a len cap b d (by omega) w h) 2 (by omega) (by omega) w h) w h
theorem l3Stmts_is (d most : Nat) (hd : d ≤ 20) (hm0 : 0 < most) (hm : most ≤ 100) (B : Nat) (a : Option Addr) (len cap b : Nat) (w : World) (hdw : Dw B a len cap b w) : Calls Try.prog 26 #[.pointer (some ⟨b, 0, none⟩), .int .i64 (d : Int), .int .i64 (most : Int)] w (DrawnR B a len cap b (most * (limS d + 1)) w) :=
  l3Stmts_of d hd B a len cap b (limS d) (fun w h => l3DrawStmt_all B a len cap b d hd w h) most hm0 hm w hdw
end Go.Proofs.Ytkhccpjkajhnpaa
/-
  The walk of l3CopyExp.
-/
namespace Go.Proofs.Ytkhccpjkajhnpaa
open Go.RowKit Go.Lib
set_option linter.unusedSimpArgs false
set_option linter.unusedVariables false

theorem enodes_app : ∀ (P R : EF), enodes (eapp P R) = enodes P + enodes R
  | .nil, R => by simp [eapp, enodes]
  | .node _ _ h l r, R => by have := enodes_app r R; simp only [eapp, enodes]; omega
theorem esize_app : ∀ (P R : EF), esize (eapp P R) = esize P + esize R
  | .nil, R => by simp [eapp, esize]
  | .node _ _ h l r, R => by have := esize_app r R; simp only [eapp, esize]; omega
/-- An expression was copied. -/
def CopiedE (x : X) (w : World) (e : Ending) (w' : World) : Prop := ∃ (F : EF) (u : Value), e = .returned (.agg (xcells ⟨x.h, F⟩ u).toArray) ∧ EV w' w.heap.size F u ∧ enodes F = enodes x.l ∧ esize F = esize x.l ∧ Below w.heap.size w w'
theorem heapNew (w : World) (arr : Array Value) (t : TypeId) : (w.alloc (.cells arr t)).heap[w.heap.size]? = some (.cells arr t (0, 0)) := by show (w.heap.push _)[w.heap.size]? = _; simp
theorem Cpy.start {w : World} {x : X} {v : Value} (t : TypeId) : Cpy w w.heap.size x v (.slice Option.none 0 0) .nil [] (((w.alloc (.cells (xcells x v).toArray t)).alloc (.cells zero4 t)).alloc (.cells (xcells ⟨x.h, .nil⟩ (.slice Option.none 0 0)).toArray t)) := by
  have b0 := alloc_below w (.cells (xcells x v).toArray t)
  have b1 := alloc_below (w.alloc (.cells (xcells x v).toArray t)) (.cells zero4 t)
  have b2 := alloc_below ((w.alloc (.cells (xcells x v).toArray t)).alloc (.cells zero4 t)) (.cells (xcells ⟨x.h, .nil⟩ (.slice Option.none 0 0)).toArray t)
  have s1 : (w.alloc (.cells (xcells x v).toArray t)).heap.size = w.heap.size + 1 := by simp
  have s2 : ((w.alloc (.cells (xcells x v).toArray t)).alloc (.cells zero4 t)).heap.size = w.heap.size + 2 := by simp
  have t1 := newthere4 (w.alloc (.cells (xcells x v).toArray t)) t
  rw [s1] at t1
  refine ⟨rangeAt_later (rangeAt_later (last_range w _ t _ rfl) b1) b2, there_later t1 b2, ?_, last_range _ _ t _ s2, ⟨rfl, .inl ⟨rfl, rfl⟩⟩, rfl, (b0.trans (b1.mono (by simp))).trans (b2.mono (by simp; omega)), rfl, by simp⟩
  rw [← s2]
  exact blk_there (arr := (xcells ⟨x.h, .nil⟩ (.slice Option.none 0 0)).toArray) (t := t) (heapNew _ _ _) (by simp [xcells])
theorem Cpy.glt {w0 w : World} {N : Nat} {x : X} {v t : Value} {P : EF} {xs : List Value} (c : Cpy w0 N x v t P xs w) : gOf t < w.heap.size := by
  unfold gOf
  cases h : t.ownBlock with
  | none => have := c.sz; simp only [Option.getD_none]; omega
  | some g => exact (c.own.lt g h).2
theorem Cpy.ev {w0 w : World} {N : Nat} {x : X} {v t : Value} {P : EF} {xs : List Value} (c : Cpy w0 N x v t P xs w) : EV w (N + 3) P t := by
  have hrow := c.row.row
  rcases c.own.2 with ⟨h0, hn⟩ | ⟨g, cp, cur, h1, h2, h3, h4⟩
  · have hP : P = .nil := by cases P with | nil => rfl | node => simp [elen] at hn
    subst hP; rw [h0]; exact EV.nil _ _ _ _
  · subst h1
    refine ⟨g, 0, _, cp, rfl, .inl rfl, h2, ERow.laid 0 hrow fun j u hj => ?_⟩
    have hc := c.own.cells (g := g) rfl j u hj
    rw [Go.WideShapes.add_plain] at hc
    exact hc
/-- The copy is laid into its place. -/
theorem Cpy.close {w0 w W : World} {N : Nat} {x : X} {v t : Value} {P : EF} {xs : List Value} (c : Cpy w0 N x v t P xs w) (hW : w.setCells (N + 1) 0 (xcells ⟨x.h, P⟩ t) = W) : W.rangeAt (N + 1) 0 (xcells ⟨x.h, P⟩ t) ∧ EV W N P t ∧ Below N w0 W := by
  have hk : Keeps (N + 3) w W := by rw [← hW]; exact Keeps.sets _ (by omega) _ _
  refine ⟨by rw [← hW]; exact World.rangeAt_setCells_same _ _ _ _ c.th1, c.ev.same (by omega) hk, ?_⟩
  rw [← hW, ← c.hN]
  exact below_sets _ _ c.low (by omega)
theorem Cpy.cell {w0 w : World} {N : Nat} {x : X} {v t : Value} {P : EF} {xs : List Value} (c : Cpy w0 N x v t P xs w) : w.cell? ⟨N, 3, Option.none⟩ = some v ∧ w.cell? ⟨N + 1 + 1, 3, Option.none⟩ = some t ∧ w.frozen? ⟨N + 1 + 1, 3, Option.none⟩ = false := by
  have r0 := c.box 3 _ rfl; have r1 := c.var 3 _ rfl; have t1 := (c.th2 3 (by omega)).2
  simp only [Nat.zero_add] at r0 r1 t1
  exact ⟨r0, r1, t1⟩
theorem Cpy.cell6 {w0 w w6 : World} {N : Nat} {x : X} {v t : Value} {P : EF} {xs : List Value} (c : Cpy w0 N x v t P xs w) (hg : w.grownBy w6 t.ownBlock) : w6.cell? ⟨N + 1 + 1, 3, Option.none⟩ = some t ∧ w6.frozen? ⟨N + 1 + 1, 3, Option.none⟩ = false := by
  have hne : t.ownBlock ≠ some (N + 2) := fun e => by have := (own_ge c.own _ e).1; omega
  have r1 := range_grown c.var hg hne 3 _ rfl; have t1 := (there_grown c.th2 hg hne 3 (by omega)).2
  simp only [Nat.zero_add] at r1 t1
  exact ⟨r1, t1⟩
theorem eownShape {w : World} {B sz n : Nat} {e : TypeId} {v : Value} {xs : List Value} (h : w.ownsRow B e sz v n xs) : ∃ a c, v = .slice a n c := by
  rcases h.2 with ⟨h1, h0⟩ | ⟨g, cap, cur, h1, _⟩
  · exact ⟨_, _, by rw [h0]; exact h1⟩
  · exact ⟨_, _, h1⟩
set_option maxHeartbeats 1000000 in
set_option maxRecDepth 100000 in
theorem l3CopyExp_step (x : X) (hx : enodes x.l ≤ 10000000)
    (ih : ∀ x' : X, enodes x'.l < enodes x.l → ∀ (w : World) (v : Value), EV w 0 x'.l v → Calls Try.prog 24 #[.agg (xcells x' v).toArray] w (CopiedE x' w))
    (w : World) (v : Value) (hv : EV w 0 x.l v) : Calls Try.prog 24 #[.agg (xcells x v).toArray] w (CopiedE x w) := by
  obtain ⟨i0, hi, hz0, hz1, hz2⟩ := info_parts infoIE
  obtain ⟨⟨xk, xn, xs⟩, xl⟩ := x
  show Calls Try.prog 24 #[.agg #[.int .i64 xk, .int .i64 xn, .string xs, v]] w _
  obtain ⟨b1, o1, ao1, cap1, rfl, hao1, _, hin1⟩ := hv
  have hx2 : enodes xl ≤ 10000000 := hx
  have hlx : elen xl ≤ 10000000 := by have := elen_le xl; omega
  have Hih := Lib.hid ih
  have C0 := Lib.hid (Cpy.start (w := w) (x := ⟨⟨xk, xn, xs⟩, xl⟩) (v := .slice ao1 (elen xl) cap1) 26)
  clear ih hx
  go_enter Try.func24, Try.ntmps24
  go_wp2
  go_loopw [4] (fun i wr => ∃ (P R : EF) (t : Value) (ys : List Value) (k : Nat), i = .int .i64 (k : Int) ∧ Hid (k + elen R = elen xl ∧ elen P = k ∧ enodes P + enodes R = enodes xl ∧ esize P + esize R = esize xl ∧ EIn w 0 R b1 (o1 + k * 4)) ∧ Hid (Cpy w w.heap.size ⟨⟨xk, xn, xs⟩, xl⟩ (.slice ao1 (elen xl) cap1) t P ys wr)) (fun i _ => elen xl - (RowKit.intOf i).toNat)
  case atStart => exact ⟨.nil, xl, _, [], 0, rfl, ⟨by omega, rfl, by simp [enodes], by simp [esize], by simpa using hin1⟩, C0⟩
  case round =>
    obtain ⟨P, R, t, ys, k, rfl, hr, hC⟩ := hrel
    obtain ⟨e1, e2, e3, e4, e5⟩ := hr.out
    clear C0
    obtain ⟨c0, c1, f1⟩ := hC.out.cell
    cases R with
    | nil =>
      have hk : ¬ (k : Int) < (elen xl : Int) := by simp only [elen] at e1; omega
      go_wp2_with (first | (refine wpList_load_mid rfl 26 _ rfl (w.heap.size + 2) 0 rfl _ _ hC.out.var Try.underlying26 rfl sizeIE2 ?_) | (refine store_abs rfl 26 _ _ rfl _ _ _ rfl rfl ?htb sizeIE2 ?hob ?_; exact hC.out.th1; exact (oneX _ _ hC.out.ev.isOne); intro W hW; have HW := Lib.hid (hC.out.close hW); clear hW))
      obtain ⟨rg, g1, g2⟩ := HW.out
      have hlv := run_loadVar_mid W (w.heap.size + 1) 0 _ _ _ rg Try.underlying26 rfl sizeIE2
      refine bodyPost_ret (v := .agg (xcells (⟨⟨xk, xn, xs⟩, P⟩ : X) t).toArray) ?_ rfl ⟨P, t, rfl, g1, by simp only [enodes] at e3; exact e3, by simp only [esize] at e4; exact e4, g2⟩
      simp [results, Try.results24, asAddr, hlv, Act.put]
    | node p q h l r =>
      have hlt : (k : Int) < (elen xl : Int) := by simp only [elen] at e1; omega
      have hk0 : (0 : Int) ≤ (k : Int) := by omega
      have hne1 : ¬ xl = .nil := by intro e; rw [e] at e1; simp only [elen] at e1; omega
      obtain rfl : ao1 = some ⟨b1, o1, Option.none⟩ := hao1.resolve_right hne1
      have hbw : Below w.heap.size w wr := hC.out.low
      obtain ⟨⟨a0, a1, a2, u1, a3, hu1⟩, _⟩ := EIn_node.1 (EIn_later hbw _ _ _ e5)
      have ra : wr.rangeAt b1 (o1 + k * 4) (xcells ⟨h, l⟩ u1) := x_range a0 a1 a2 a3
      simp only [enodes] at e3
      have Hl := Lib.hid (Hih.out ⟨h, l⟩ (by show enodes l < enodes xl; omega) wr u1 hu1)
      have He : Hid (k + 1 + elen r = elen xl ∧ enodes P + (enodes l + enodes r + 1) = enodes xl ∧ esize P + (h.s.size + esize l + esize r + 1) = esize xl ∧ EIn w 0 r b1 (o1 + (k + 1) * 4)) := ⟨by simp only [elen] at e1; omega, e3, e4, by have := (EIn_node.1 e5).2; rw [show o1 + (k + 1) * 4 = o1 + k * 4 + 4 by omega]; exact this⟩
      have hgl := hC.out.glt
      have hsz := hC.out.sz
      have hPk : elen P ≤ 10000000 := by omega
      obtain ⟨ta, tc, rfl⟩ := eownShape hC.out.own
      have He2 := Lib.hid e2
      clear e2 e1 e3 e4 e5 hne1 a0 a1 a2 a3 hu1 hbw hr
      go_wp2_with (refine wpList_load_mid rfl 26 _ rfl b1 (o1 + k * 4) rfl _ _ ra Try.underlying26 rfl sizeIE2 ?_)
      refine Hl.out.mono ?_
      rintro e w5 ⟨F5, u5, hret, g5, n5, z5, b5⟩
      obtain ⟨ua, uc, rfl⟩ := g5.shape
      obtain rfl : e = .returned (.agg #[.int .i64 h.k, .int .i64 h.n, .string h.s, .slice ua (elen F5) uc]) := hret
      have hw5 := b5.size
      have C5 := Lib.hid (hC.out.later b5)
      have G5 := Lib.hid g5
      obtain ⟨_, c5, f5⟩ := (C5.out.later (alloc_below w5 (.cells #[.int .i64 h.k, .int .i64 h.n, .string h.s, .slice ua (elen F5) uc] 26))).cell
      have bb := (alloc_below w5 (.cells #[.int .i64 h.k, .int .i64 h.n, .string h.s, .slice ua (elen F5) uc] 26)).alloc (by simp) (.cells #[.int .i64 h.k, .int .i64 h.n, .string h.s, .slice ua (elen F5) uc] 26)
      have C7 := Lib.hid (C5.out.later bb)
      have E7 := Lib.hid (EVx.fresh (lo := w.heap.size + 3) (g := gOf (.slice ta (elen P) tc)) (g5.later bb) (by omega) hgl)
      clear g5 b5 hC bb Hl ra
      go_wp2_with (at_builtin; refine wpList_append_lies _ rfl _ _ 24 rfl (w.heap.size + 3) 26 i0 _ 4 56 Try.underlying24 hi hz0 hz1 hz2 rfl (by decide) _ _ _ rfl C7.out.own ⟨w5.heap.size + 1, 0, Option.none⟩ 1 1 (xcells ⟨h, F5⟩ (.slice ua (elen F5) uc)) rfl rfl ?c1 ?c2 (by decide) ?c3 ?c4 ?c5 (w5.heap.size + 2) ?c6 ?_)
      case c1 => exact fun j u hj => by have := last_range (w5.alloc (.cells #[.int .i64 h.k, .int .i64 h.n, .string h.s, .slice ua (elen F5) uc] 26)) #[.int .i64 h.k, .int .i64 h.n, .string h.s, .slice ua (elen F5) uc] 26 (w5.heap.size + 1) (by simp) j u hj; rw [Nat.zero_add] at this; rw [Go.WideShapes.add_plain, Nat.zero_add]; exact this
      case c2 => intro z hz; simp only [xcells, List.mem_cons, List.not_mem_nil, or_false] at hz; rcases hz with rfl | rfl | rfl | rfl <;> rfl
      case c3 => unfold maxLen; omega
      case c4 => omega
      case c5 => simp; omega
      case c6 => simp
      intro g c6 w6 hown6 hgrow6 hat6 hlt6
      obtain ⟨c8, f8⟩ := C7.out.cell6 hgrow6
      have C8 := Lib.hid (C7.out.next (p := 0) (q := 0) E7.out hown6 hgrow6 (by rcases hat6 with e | e; exact .inl e; exact .inr (by simp; omega)))
      clear hown6 hgrow6 hat6 hlt6 C5 C7 E7 G5
      go_wp2
      go_roundw
      case rel => exact ⟨eapp P (.node 0 0 h F5 .nil), r, _, _, k + 1, by go_num, ⟨He.out.1, by have := He2.out; rw [elen_app]; simp only [elen]; omega, by rw [enodes_app]; simp only [enodes]; have := He.out.2.1; have : enodes F5 = enodes l := n5; omega, by rw [esize_app]; simp only [esize]; have := He.out.2.2.1; have : esize F5 = esize l := z5; omega, He.out.2.2.2⟩, C8⟩
      case measure => simp [RowKit.intOf]; omega
theorem l3CopyExp_all : ∀ (m : Nat) (x : X), enodes x.l ≤ m → enodes x.l ≤ 10000000 → ∀ (w : World) (v : Value), EV w 0 x.l v → Calls Try.prog 24 #[.agg (xcells x v).toArray] w (CopiedE x w)
  | 0, x, h, hx, w, v, hv => l3CopyExp_step x hx (fun x' h' => absurd h' (by omega)) w v hv
  | m + 1, x, h, hx, w, v, hv => l3CopyExp_step x hx (fun x' h' w v hv => l3CopyExp_all m x' (by omega) (by omega) w v hv) w v hv
end Go.Proofs.Ytkhccpjkajhnpaa
