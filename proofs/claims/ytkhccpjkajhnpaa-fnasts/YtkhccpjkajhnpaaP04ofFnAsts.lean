/-
  Texts in one: AstDraw2, AstVar, AstCopy, AstSVar.
-/
import Derived.Test.YtkhccpjkajhnpaaP03ofFnAsts
import Derived.Deep.Upon
/-
  The contract of l3Draw.
-/
namespace Go.Proofs.Ytkhccpjkajhnpaa
open Go.RowKit Go.Lib
set_option linter.unusedSimpArgs false
set_option linter.unusedVariables false

def limD : Nat → Nat
  | 0 => 4
  | d + 1 => 2 * limD d + 4
theorem limD_pos (d : Nat) : 4 ≤ limD d := by cases d <;> simp [limD]
theorem there_wr {b n o m : Nat} {w w' : World} (h : w.there n o m) (hw : Wr b w w') (hne : n ≠ b) : w'.there n o m := fun j hj => by
  obtain ⟨h1, h2⟩ := h j hj
  obtain ⟨u, hu⟩ := Option.isSome_iff_exists.1 h1
  have e := hw.block n (lt_of_cellA hu) hne
  refine ⟨by rw [World.cell?_of_block (a := ⟨n, o + j, Option.none⟩) e, hu]; rfl, ?_⟩
  unfold World.frozen? at h2 ⊢
  simp only [e]
  exact h2
theorem range_wr {b n o : Nat} {cs : List Value} {w w' : World} (h : w.rangeAt n o cs) (hw : Wr b w w') (hne : n ≠ b) : w'.rangeAt n o cs := fun j v hv => by
  have hc := h j v hv
  rw [World.cell?_of_block (a := ⟨n, o + j, Option.none⟩) (hw.block n (lt_of_cellA hc) hne)]; exact hc
theorem ints_cell (w : World) (l : List Int) (q : Int → Prop) (hq : ∀ z ∈ l, q z) (n : Nat) (hn : w.heap.size = n) (j : Nat) (h : j < l.length) : ∃ z : Int, (w.alloc (.cells (l.map (Value.int .i64)).toArray 3)).cell? ⟨n, j, none⟩ = some (.int .i64 z) ∧ q z := by
  subst hn
  refine ⟨l[j], ?_, hq _ (List.getElem_mem h)⟩
  rw [World.cell?_alloc_new]
  simp [h]
theorem strs_cell (w : World) (l : List ByteArray) (q : ByteArray → Prop) (hq : ∀ z ∈ l, q z) (n : Nat) (hn : w.heap.size = n) (j : Nat) (h : j < l.length) : ∃ z : ByteArray, (w.alloc (.cells (l.map Value.string).toArray 9)).cell? ⟨n, j, none⟩ = some (.string z) ∧ q z := by
  subst hn
  refine ⟨l[j], ?_, hq _ (List.getElem_mem h)⟩
  rw [World.cell?_alloc_new]
  simp [h]
theorem l1Str_is (B : Nat) (a : Option Addr) (len cap b lb n c : Nat) (q : ByteArray → Prop) (w : World) (d : Dw B a len cap b w) (hn0 : 0 < n) (hn1 : n ≤ 1048576) (hlb : lb ≠ b) (hl : ∀ j, j < n → ∃ z : ByteArray, w.cell? ⟨lb, j, none⟩ = some (.string z) ∧ q z) :
    Calls Try.prog 42 #[.pointer (some ⟨b, 0, none⟩), .slice (some ⟨lb, 0, none⟩) n c] w fun e w' => ∃ x : ByteArray, e = .returned (.string x) ∧ q x ∧ Dw B a len cap b w' ∧ Wr b w w' :=
  (l1Str B a len cap b lb n c q w d.hlen d.hB d.hC d.cur hn0 hn1 hlb hl).mono fun e w' ⟨x, h1, h2, h3, h4⟩ => ⟨x, h1, h2, d.touch h4 h3, .of_touch h4⟩
theorem l1Below_is (B : Nat) (a : Option Addr) (len cap b : Nat) (n : Int) (w : World) (d : Dw B a len cap b w) (hn0 : 0 < n) :
    Calls Try.prog 40 #[.pointer (some ⟨b, 0, none⟩), .int .i64 n] w fun e w' => ∃ x : Int, e = .returned (.int .i64 x) ∧ (0 ≤ x ∧ x < n) ∧ Dw B a len cap b w' ∧ Wr b w w' :=
  (l1Below B a len cap b n w d.hlen d.hB d.hC d.cur hn0).mono fun e w' ⟨x, h1, h2, h3, h4, h5⟩ => ⟨x, h1, ⟨h2, h3⟩, d.touch h5 h4, .of_touch h5⟩
theorem lt_there {w : World} {n : Nat} (h : w.there n 0 4) : n + 1 ≤ w.heap.size := by
  obtain ⟨u, hu⟩ := Option.isSome_iff_exists.1 (h 0 (by omega)).1
  exact lt_of_cellA hu
/-- The answer is laid into its place. -/
theorem close {B : Nat} {a : Option Addr} {len cap b N : Nat} {w0 w1 W : World} {x : X} {v : Value} (hN : w0.heap.size = N) (hbN : b < N) (hth : w1.there N 0 4) (hv : EV w1 (N + 1) x.l v) (d1 : Dw B a len cap b w1) (hw : Wr b w0 w1) (hW : w1.setCells N 0 (xcells x v) = W) :
    W.rangeAt N 0 (xcells x v) ∧ EV W N x.l v ∧ Dw B a len cap b W ∧ Wr b w0 W := by
  have hB : Below N w1 W := by rw [← hW]; exact below_sets _ _ (Below.refl _ _) (Nat.le_refl _)
  have hs : w1.heap.size ≤ W.heap.size := by rw [← hW, size_sets]; exact Nat.le_refl _
  refine ⟨by rw [← hW]; exact World.rangeAt_setCells_same _ _ _ _ hth, (hv.same (Nat.le_succ _) (by rw [← hW]; exact Keeps.sets _ (by omega) _ _)), ⟨d1.hlen, d1.hB, d1.hC.later (hB.mono (by have := d1.hB; omega)), d1.cur.later (hB.block b hbN)⟩, ?_⟩
  exact ⟨hB.os.trans hw.os, hB.tape.trans hw.tape, hB.output.trans hw.output, Nat.le_trans hw.size hs, fun k hk hne => (hB.block k (by omega)).trans (hw.block k hk hne)⟩
theorem okKinds : ∀ z ∈ ([1, 2, 2, 3, 4, 4, 5, 6, 7, 8] : List Int), 1 ≤ z ∧ z ≤ 8 := by decide
theorem okNames5 : ∀ z ∈ ([⟨#[120]⟩, ⟨#[121]⟩, ⟨#[105]⟩, ⟨#[106]⟩, ⟨#[115]⟩] : List ByteArray), z.size ≤ 1 := by decide
theorem okNames2 : ∀ z ∈ ([⟨#[97]⟩, ⟨#[98]⟩] : List ByteArray), z.size ≤ 1 := by decide
set_option maxHeartbeats 4000000 in
set_option maxRecDepth 100000 in
theorem l3Draw_step (d : Nat) (hd : d ≤ 20) (B : Nat) (a : Option Addr) (len cap b : Nat)
    (ih : 1 ≤ d → ∀ w, Dw B a len cap b w → Calls Try.prog 39 #[.pointer (some ⟨b, 0, none⟩), .int .i64 ((d : Int) - 1)] w (Drawn B a len cap b (limD (d - 1)) w))
    (w : World) (hdw : Dw B a len cap b w) : Calls Try.prog 39 #[.pointer (some ⟨b, 0, none⟩), .int .i64 (d : Int)] w (Drawn B a len cap b (limD d) w) := by
  have Hih := Lib.hid ih
  have HD := Lib.hid hdw
  have hbN := hdw.cur.lt
  have hdI : (d : Int) ≤ 20 := by omega
  clear ih hdw
  go_enter Try.func39, Try.ntmps39
  go_wp2_with fail
  have b0 := (alloc_below w (.cells zero4 26)).alloc (by simp) (.cells (([1, 2, 2, 3, 4, 4, 5, 6, 7, 8] : List Int).map (Value.int .i64)).toArray 3)
  have th0 : ((w.alloc (.cells zero4 26)).alloc (.cells (([1, 2, 2, 3, 4, 4, 5, 6, 7, 8] : List Int).map (Value.int .i64)).toArray 3)).there w.heap.size 0 4 := there_later (newthere4 w 26) (alloc_below _ _)
  refine (l1Int_is B a len cap b (w.heap.size + 1) 10 10 (fun z => 1 ≤ z ∧ z ≤ 8) _ (HD.out.later b0) (by omega) (by omega) (by omega) (fun j hj => ints_cell _ _ _ okKinds _ (by simp) j hj)).mono ?_
  rintro e w1 ⟨k, rfl, ⟨hk1, hk8⟩, d1, wr1⟩
  have D1 := Lib.hid (And.intro d1 (And.intro ((Wr.of_below b0).trans wr1) (there_wr th0 wr1 (by omega))))
  clear d1 wr1 b0 th0
  by_cases h0 : d = 0
  · have hd0 : (d : Int) ≤ 0 := by omega
    by_cases h2 : 2 < k
    · clear h0 hk1 hk8
      go_wp2_with fail
      refine (l1Below_is B a len cap b 10 _ D1.out.1 (by omega)).mono ?_
      rintro e w2 ⟨y, rfl, _, d2, wr2⟩
      have D2 := Lib.hid (And.intro d2 (And.intro (D1.out.2.1.trans wr2) (there_wr D1.out.2.2 wr2 (by omega))))
      clear d2 wr2 D1
      go_wp2_with fail
      refine (l3Num_is y _).mono ?_
      rintro e w3 ⟨rfl, hb3⟩
      have D3 := Lib.hid (And.intro (D2.out.1.later hb3) (And.intro (D2.out.2.1.trans (.of_below hb3)) (there_later D2.out.2.2 hb3)))
      clear hb3 D2
      go_wp2_with (refine store_abs rfl 26 _ _ rfl _ _ _ rfl rfl ?htn1 sizeIE2 ?hon1 ?_; exact D3.out.2.2; exact (oneX (⟨⟨1, y, ⟨#[]⟩⟩, .nil⟩ : X) (.slice Option.none 0 0 : Value) rfl); intro W hW; have HW := Lib.hid (close rfl hbN D3.out.2.2 (EV.nil _ _ _ _) D3.out.1 D3.out.2.1 hW); clear hW)
      obtain ⟨rg, g1, g2, g3⟩ := HW.out
      have hlv := run_loadVar_mid W w.heap.size 0 _ _ _ rg Try.underlying26 rfl sizeIE2
      refine bodyPost_ret (v := .agg (xcells ((⟨⟨1, y, ⟨#[]⟩⟩, .nil⟩ : X)) ((.slice Option.none 0 0 : Value))).toArray) ?_ rfl ⟨(⟨⟨1, y, ⟨#[]⟩⟩, .nil⟩ : X), (.slice Option.none 0 0 : Value), rfl, g1, (by have h1 := limD_pos d; have h1z := limD_pos 0; have h0 : xsize (⟨⟨1, y, ⟨#[]⟩⟩, .nil⟩ : X) = 0 := rfl; rw [h0]; omega), g2, g3⟩
      simp [results, Try.results39, asAddr, hlv]
    · obtain rfl | rfl : k = 1 ∨ k = 2 := by omega
      · clear h0 hk1 hk8 h2
        go_wp2_with fail
        refine (l1Below_is B a len cap b 10 _ D1.out.1 (by omega)).mono ?_
        rintro e w2 ⟨y, rfl, _, d2, wr2⟩
        have D2 := Lib.hid (And.intro d2 (And.intro (D1.out.2.1.trans wr2) (there_wr D1.out.2.2 wr2 (by omega))))
        clear d2 wr2 D1
        go_wp2_with fail
        refine (l3Num_is y _).mono ?_
        rintro e w3 ⟨rfl, hb3⟩
        have D3 := Lib.hid (And.intro (D2.out.1.later hb3) (And.intro (D2.out.2.1.trans (.of_below hb3)) (there_later D2.out.2.2 hb3)))
        clear hb3 D2
        go_wp2_with (refine store_abs rfl 26 _ _ rfl _ _ _ rfl rfl ?htn2 sizeIE2 ?hon2 ?_; exact D3.out.2.2; exact (oneX (⟨⟨1, y, ⟨#[]⟩⟩, .nil⟩ : X) (.slice Option.none 0 0 : Value) rfl); intro W hW; have HW := Lib.hid (close rfl hbN D3.out.2.2 (EV.nil _ _ _ _) D3.out.1 D3.out.2.1 hW); clear hW)
        obtain ⟨rg, g1, g2, g3⟩ := HW.out
        have hlv := run_loadVar_mid W w.heap.size 0 _ _ _ rg Try.underlying26 rfl sizeIE2
        refine bodyPost_ret (v := .agg (xcells ((⟨⟨1, y, ⟨#[]⟩⟩, .nil⟩ : X)) ((.slice Option.none 0 0 : Value))).toArray) ?_ rfl ⟨(⟨⟨1, y, ⟨#[]⟩⟩, .nil⟩ : X), (.slice Option.none 0 0 : Value), rfl, g1, (by have h1 := limD_pos d; have h1z := limD_pos 0; have h0 : xsize (⟨⟨1, y, ⟨#[]⟩⟩, .nil⟩ : X) = 0 := rfl; rw [h0]; omega), g2, g3⟩
        simp [results, Try.results39, asAddr, hlv]
      · clear h0 hk1 hk8 h2
        go_wp2_with fail
        have b2 := alloc_below w1 (.cells (([⟨#[120]⟩, ⟨#[121]⟩, ⟨#[105]⟩, ⟨#[106]⟩, ⟨#[115]⟩] : List ByteArray).map Value.string).toArray 9)
        have hw1 : b < w1.heap.size := D1.out.1.cur.lt
        refine (l1Str_is B a len cap b w1.heap.size 5 5 (fun z => z.size ≤ 1) _ (D1.out.1.later b2) (by omega) (by omega) (by omega) (fun j hj => strs_cell w1 _ _ okNames5 _ rfl j hj)).mono ?_
        rintro e w2 ⟨y, rfl, hy, d2, wr2⟩
        have D2 := Lib.hid (And.intro d2 (And.intro (D1.out.2.1.trans ((Wr.of_below b2).trans wr2)) (there_wr (there_later D1.out.2.2 b2) wr2 (by omega))))
        have HY := Lib.hid hy
        clear d2 wr2 D1 b2 hy hw1
        go_wp2_with fail
        refine (l3Var_is y _).mono ?_
        rintro e w3 ⟨rfl, hb3⟩
        have D3 := Lib.hid (And.intro (D2.out.1.later hb3) (And.intro (D2.out.2.1.trans (.of_below hb3)) (there_later D2.out.2.2 hb3)))
        clear hb3 D2
        go_wp2_with (refine store_abs rfl 26 _ _ rfl _ _ _ rfl rfl ?htv3 sizeIE2 ?hov3 ?_; exact D3.out.2.2; exact (oneX (⟨⟨2, 0, y⟩, .nil⟩ : X) (.slice Option.none 0 0 : Value) rfl); intro W hW; have HW := Lib.hid (close rfl hbN D3.out.2.2 (EV.nil _ _ _ _) D3.out.1 D3.out.2.1 hW); clear hW)
        obtain ⟨rg, g1, g2, g3⟩ := HW.out
        have hlv := run_loadVar_mid W w.heap.size 0 _ _ _ rg Try.underlying26 rfl sizeIE2
        refine bodyPost_ret (v := .agg (xcells ((⟨⟨2, 0, y⟩, .nil⟩ : X)) ((.slice Option.none 0 0 : Value))).toArray) ?_ rfl ⟨(⟨⟨2, 0, y⟩, .nil⟩ : X), (.slice Option.none 0 0 : Value), rfl, g1, (by have h1 := limD_pos d; have h1z := limD_pos 0; have h2 := HY.out; have h0 : xsize (⟨⟨2, 0, y⟩, .nil⟩ : X) = y.size := rfl; rw [h0]; omega), g2, g3⟩
        simp [results, Try.results39, asAddr, hlv]
  · have hd0 : ¬ (d : Int) ≤ 0 := by omega
    have Hd1 : Hid (1 ≤ d) := show 1 ≤ d by omega
    have HLim : Hid (limD d = 2 * limD (d - 1) + 4) := show limD d = _ by
      obtain ⟨d', rfl⟩ : ∃ d', d = d' + 1 := ⟨d - 1, by omega⟩
      rfl
    obtain rfl | rfl | rfl | h4 : k = 1 ∨ k = 2 ∨ k = 3 ∨ 4 ≤ k := by omega
    · clear h0 hk1 hk8
      go_wp2_with fail
      refine (l1Below_is B a len cap b 10 _ D1.out.1 (by omega)).mono ?_
      rintro e w2 ⟨y, rfl, _, d2, wr2⟩
      have D2 := Lib.hid (And.intro d2 (And.intro (D1.out.2.1.trans wr2) (there_wr D1.out.2.2 wr2 (by omega))))
      clear d2 wr2 D1
      go_wp2_with fail
      refine (l3Num_is y _).mono ?_
      rintro e w3 ⟨rfl, hb3⟩
      have D3 := Lib.hid (And.intro (D2.out.1.later hb3) (And.intro (D2.out.2.1.trans (.of_below hb3)) (there_later D2.out.2.2 hb3)))
      clear hb3 D2
      go_wp2_with (refine store_abs rfl 26 _ _ rfl _ _ _ rfl rfl ?htn4 sizeIE2 ?hon4 ?_; exact D3.out.2.2; exact (oneX (⟨⟨1, y, ⟨#[]⟩⟩, .nil⟩ : X) (.slice Option.none 0 0 : Value) rfl); intro W hW; have HW := Lib.hid (close rfl hbN D3.out.2.2 (EV.nil _ _ _ _) D3.out.1 D3.out.2.1 hW); clear hW)
      obtain ⟨rg, g1, g2, g3⟩ := HW.out
      have hlv := run_loadVar_mid W w.heap.size 0 _ _ _ rg Try.underlying26 rfl sizeIE2
      refine bodyPost_ret (v := .agg (xcells ((⟨⟨1, y, ⟨#[]⟩⟩, .nil⟩ : X)) ((.slice Option.none 0 0 : Value))).toArray) ?_ rfl ⟨(⟨⟨1, y, ⟨#[]⟩⟩, .nil⟩ : X), (.slice Option.none 0 0 : Value), rfl, g1, (by have h1 := limD_pos d; have h1z := limD_pos 0; have h0 : xsize (⟨⟨1, y, ⟨#[]⟩⟩, .nil⟩ : X) = 0 := rfl; rw [h0]; omega), g2, g3⟩
      simp [results, Try.results39, asAddr, hlv]
    · clear h0 hk1 hk8
      go_wp2_with fail
      have b2 := alloc_below w1 (.cells (([⟨#[120]⟩, ⟨#[121]⟩, ⟨#[105]⟩, ⟨#[106]⟩, ⟨#[115]⟩] : List ByteArray).map Value.string).toArray 9)
      have hw1 : b < w1.heap.size := D1.out.1.cur.lt
      refine (l1Str_is B a len cap b w1.heap.size 5 5 (fun z => z.size ≤ 1) _ (D1.out.1.later b2) (by omega) (by omega) (by omega) (fun j hj => strs_cell w1 _ _ okNames5 _ rfl j hj)).mono ?_
      rintro e w2 ⟨y, rfl, hy, d2, wr2⟩
      have D2 := Lib.hid (And.intro d2 (And.intro (D1.out.2.1.trans ((Wr.of_below b2).trans wr2)) (there_wr (there_later D1.out.2.2 b2) wr2 (by omega))))
      have HY := Lib.hid hy
      clear d2 wr2 D1 b2 hy hw1
      go_wp2_with fail
      refine (l3Var_is y _).mono ?_
      rintro e w3 ⟨rfl, hb3⟩
      have D3 := Lib.hid (And.intro (D2.out.1.later hb3) (And.intro (D2.out.2.1.trans (.of_below hb3)) (there_later D2.out.2.2 hb3)))
      clear hb3 D2
      go_wp2_with (refine store_abs rfl 26 _ _ rfl _ _ _ rfl rfl ?htv5 sizeIE2 ?hov5 ?_; exact D3.out.2.2; exact (oneX (⟨⟨2, 0, y⟩, .nil⟩ : X) (.slice Option.none 0 0 : Value) rfl); intro W hW; have HW := Lib.hid (close rfl hbN D3.out.2.2 (EV.nil _ _ _ _) D3.out.1 D3.out.2.1 hW); clear hW)
      obtain ⟨rg, g1, g2, g3⟩ := HW.out
      have hlv := run_loadVar_mid W w.heap.size 0 _ _ _ rg Try.underlying26 rfl sizeIE2
      refine bodyPost_ret (v := .agg (xcells ((⟨⟨2, 0, y⟩, .nil⟩ : X)) ((.slice Option.none 0 0 : Value))).toArray) ?_ rfl ⟨(⟨⟨2, 0, y⟩, .nil⟩ : X), (.slice Option.none 0 0 : Value), rfl, g1, (by have h1 := limD_pos d; have h1z := limD_pos 0; have h2 := HY.out; have h0 : xsize (⟨⟨2, 0, y⟩, .nil⟩ : X) = y.size := rfl; rw [h0]; omega), g2, g3⟩
      simp [results, Try.results39, asAddr, hlv]
    · clear h0 hk1 hk8
      go_wp2_with fail
      have b2 := alloc_below w1 (.cells (([⟨#[97]⟩, ⟨#[98]⟩] : List ByteArray).map Value.string).toArray 9)
      have hw1 : b < w1.heap.size := D1.out.1.cur.lt
      refine (l1Str_is B a len cap b w1.heap.size 2 2 (fun z => z.size ≤ 1) _ (D1.out.1.later b2) (by omega) (by omega) (by omega) (fun j hj => strs_cell w1 _ _ okNames2 _ rfl j hj)).mono ?_
      rintro e w2 ⟨y, rfl, hy, d2, wr2⟩
      have D2 := Lib.hid (And.intro d2 (And.intro (D1.out.2.1.trans ((Wr.of_below b2).trans wr2)) (there_wr (there_later D1.out.2.2 b2) wr2 (by omega))))
      have HY := Lib.hid hy
      clear d2 wr2 D1 b2 hy hw1
      go_wp2_with fail
      refine (Hih.out Hd1.out _ D2.out.1).mono ?_
      rintro e w3 ⟨x3, u3, rfl, g3, s3, d3, wr3⟩
      have hN3 : w.heap.size + 1 ≤ w2.heap.size := lt_there D2.out.2.2
      have D3 := Lib.hid (And.intro d3 (And.intro (D2.out.2.1.trans wr3) (there_wr D2.out.2.2 wr3 (by omega))))
      have G3 := Lib.hid (And.intro (g3.lower hN3) s3)
      have hw3 : w.heap.size + 1 ≤ w3.heap.size := lt_there D3.out.2.2
      clear d3 wr3 D2 g3 s3 hN3
      go_wp2_with fail
      refine (l3At_is y x3 (w.heap.size + 1) _ u3 G3.out.1 hw3).mono ?_
      rintro e w4 ⟨u4, rfl, g4, hb4⟩
      have D4 := Lib.hid (And.intro (D3.out.1.later hb4) (And.intro (D3.out.2.1.trans (.of_below hb4)) (there_later D3.out.2.2 hb4)))
      have G4 := Lib.hid g4
      clear hb4 D3 g4 hw3
      go_wp2_with (refine store_abs rfl 26 _ _ rfl _ _ _ rfl rfl ?hta6 sizeIE2 ?hoa6 ?_; exact D4.out.2.2; exact (oneX (⟨⟨3, 0, y⟩, .node 0 0 x3.h x3.l .nil⟩ : X) u4 G4.out.isOne); intro W hW; have HW := Lib.hid (close rfl hbN D4.out.2.2 G4.out D4.out.1 D4.out.2.1 hW); clear hW)
      obtain ⟨rg, g1, g2, g3⟩ := HW.out
      have hlv := run_loadVar_mid W w.heap.size 0 _ _ _ rg Try.underlying26 rfl sizeIE2
      refine bodyPost_ret (v := .agg (xcells ((⟨⟨3, 0, y⟩, .node 0 0 x3.h x3.l .nil⟩ : X)) (u4)).toArray) ?_ rfl ⟨(⟨⟨3, 0, y⟩, .node 0 0 x3.h x3.l .nil⟩ : X), u4, rfl, g1, (by have h1 := HY.out; have h2 := G3.out.2; rw [HLim.out]; simp only [xsize, esize] at h2 ⊢; omega), g2, g3⟩
      simp [results, Try.results39, asAddr, hlv]
    · have e1 : (k == 1) = false := int_ne (by omega)
      have e2 : (k == 2) = false := int_ne (by omega)
      have e3 : (k == 3) = false := int_ne (by omega)
      clear h0 hk1 hk8 h4
      go_wp2_with fail
      refine (Hih.out Hd1.out _ D1.out.1).mono ?_
      rintro e w2 ⟨x2, u2, rfl, g2, s2, d2, wr2⟩
      have hN2 : w.heap.size + 1 ≤ w1.heap.size := lt_there D1.out.2.2
      have D2 := Lib.hid (And.intro d2 (And.intro (D1.out.2.1.trans wr2) (there_wr D1.out.2.2 wr2 (by omega))))
      have G2 := Lib.hid (And.intro (g2.lower hN2) s2)
      have i2 := g2.isOne
      clear d2 wr2 D1 g2 s2 hN2
      go_wp2_with (refine store_abs rfl 26 _ _ rfl _ _ _ rfl rfl ?hp7 sizeIE2 ?hq7 ?_; exact (newthere4 w2 _); exact (oneX x2 u2 i2); intro W6 hW; have HW6 := Lib.hid (newblk4 x2 u2 hW); clear hW)
      obtain ⟨n6, hn6⟩ : ∃ n, w2.heap.size = n := ⟨_, rfl⟩
      have hbn6 : b < n6 := by have := D2.out.1.cur.lt; omega
      have hnn6 : w.heap.size < n6 := by have := lt_there D2.out.2.2; omega
      have D6 := Lib.hid (And.intro (D2.out.1.later HW6.out.2) (And.intro (D2.out.2.1.trans (.of_below HW6.out.2)) (there_later D2.out.2.2 HW6.out.2)))
      have R6 := Lib.hid HW6.out.1
      have G6 := Lib.hid (G2.out.1.later HW6.out.2)
      rw [hn6] at R6 ⊢
      clear HW6 D2 i2 hn6
      have bd : Below W6.heap.size W6 W6.drew := (Below.refl _ W6).drew
      have Dd := D6.out.1.later bd
      have hwd : w.heap.size + 1 ≤ W6.drew.heap.size := lt_there D6.out.2.2
      have hdp := Hd1.out
      refine wp_region_held_drew (S := fun w' => w'.rangeAt n6 0 (xcells x2 u2) ∧ w'.there w.heap.size 0 4) (by kernel_rfl) ⟨rangeAt_later R6.out bd, there_later D6.out.2.2 bd⟩ (fun hHeld => ?_)
      refine wpAnyH_take (i := 0) (v := .int .i64 k) rfl (by kernel_rfl) (by kernel_rfl) (by kernel_rfl) (fun _ _ _ h => h) (Or.inl ⟨by rfl, ?yp70⟩) hHeld ?_
      case yp70 => intro w hSw; go_simp
      simp only [Act.put, List.getElem_toArray, List.getElem_cons_succ, List.getElem_cons_zero, List.setIfInBounds_toArray, List.set_cons_zero, List.set_cons_succ]
      refine wpAnyH_take (i := 1) (v := .agg (xcells x2 u2).toArray) rfl (by kernel_rfl) (by kernel_rfl) (by kernel_rfl) (fun _ _ _ h => h) (yieldsIf_load_mid (by rfl) 26 _ rfl (n6) (0) rfl (xcells x2 u2) _ (fun w h => h.1) Try.underlying26 rfl sizeIE2) hHeld ?_
      simp only [Act.put, List.getElem_toArray, List.getElem_cons_succ, List.getElem_cons_zero, List.setIfInBounds_toArray, List.set_cons_zero, List.set_cons_succ]
      refine wpAnyH_take (i := 2) (v := .pointer (some ⟨b, 0, none⟩)) rfl (by kernel_rfl) (by kernel_rfl) (by kernel_rfl) (fun _ _ _ h => h) (Or.inl ⟨by rfl, ?yp72⟩) hHeld ?_
      case yp72 => intro w hSw; go_simp
      simp only [Act.put, List.getElem_toArray, List.getElem_cons_succ, List.getElem_cons_zero, List.setIfInBounds_toArray, List.set_cons_zero, List.set_cons_succ]
      refine wpAnyH_take (i := 3) (v := .int .i64 (d : Int)) rfl (by kernel_rfl) (by kernel_rfl) (by kernel_rfl) (fun _ _ _ h => h) (Or.inl ⟨by rfl, ?yp73⟩) hHeld ?_
      case yp73 => intro w hSw; go_simp
      simp only [Act.put, List.getElem_toArray, List.getElem_cons_succ, List.getElem_cons_zero, List.setIfInBounds_toArray, List.set_cons_zero, List.set_cons_succ]
      refine wpAnyH_take (i := 4) (v := .int .i64 ((d : Int) - 1)) rfl (by kernel_rfl) (by kernel_rfl) (by kernel_rfl) (fun _ _ _ h => h) (Or.inl ⟨by rfl, ?yp74⟩) hHeld ?_
      case yp74 => intro w hSw; (go_simp; try (rw [IntKind.wrap_i64]); try omega)
      simp only [Act.put, List.getElem_toArray, List.getElem_cons_succ, List.getElem_cons_zero, List.setIfInBounds_toArray, List.set_cons_zero, List.set_cons_succ]
      refine wpAnyH_ready (rs := [5]) (by kernel_rfl) (by simp) ?_
      refine AllReadyH.cons rfl (fun K hK => ?_) AllReadyH.nil
      rw [if_pos (by rfl)]
      simp only [List.getElem_toArray, List.getElem_cons_succ, List.getElem_cons_zero]
      go_wp2_with fail
      refine (Hih.out Hd1.out _ Dd).mono ?_
      rintro e w7 ⟨x7, u7, rfl, g7, s7, d7, wr7⟩
      go_wp2_with fail
      refine hK.out _ _ (⟨range_wr hHeld.1 wr7 (by omega), there_wr hHeld.2 wr7 (by omega)⟩) (fun hHeld => ?_)
      have h27 : EV w7 (w.heap.size + 1) x2.l u2 := (G6.out.later bd).wr wr7 (by omega)
      have h77 : EV w7 (w.heap.size + 1) x7.l u7 := g7.lower hwd
      have hw7 : w.heap.size + 1 ≤ w7.heap.size := Nat.le_trans hwd wr7.size
      refine wpAnyH_ready (rs := [6]) (by kernel_rfl) (by simp) ?_
      refine AllReadyH.cons rfl (fun K hK => ?_) AllReadyH.nil
      rw [if_pos (by rfl)]
      simp only [List.getElem_toArray, List.getElem_cons_succ, List.getElem_cons_zero]
      go_wp2_with fail
      refine (l3Two_is k x2 x7 (w.heap.size + 1) _ u2 u7 h27 h77 hw7).mono ?_
      rintro e w8 ⟨u8, rfl, g8, hb8⟩
      go_wp2_with fail
      refine hK.out _ _ (⟨rangeAt_later hHeld.1 hb8, there_later hHeld.2 hb8⟩) (fun hHeld => ?_)
      have D8 : Hid (Dw B a len cap b w8 ∧ Wr b w w8) := ⟨d7.later hb8, (D6.out.2.1.trans (.of_below bd)).trans (wr7.trans (.of_below hb8))⟩
      have G8 := Lib.hid (And.intro g8 s7)
      have TH := hHeld.2
      refine wpAnyH_ready (rs := [7]) (by kernel_rfl) (by simp) ?_
      refine AllReadyH.cons rfl (fun K hK => ?_) AllReadyH.nil
      rw [if_pos (by rfl)]
      simp only [List.getElem_toArray, List.getElem_cons_succ, List.getElem_cons_zero]
      refine wp_store_mid 26 _ _ rfl _ _ _ rfl rfl ?hs7 sizeIE2 ?hu7 ?_
      case hs7 => exact TH
      case hu7 => exact oneX (⟨⟨k, 0, ⟨#[]⟩⟩, .node 0 0 x2.h x2.l (.node 0 0 x7.h x7.l .nil)⟩ : X) u8 g8.isOne
      obtain ⟨W, hW⟩ : ∃ W, w8.setCells w.heap.size 0 (xcells (⟨⟨k, 0, ⟨#[]⟩⟩, .node 0 0 x2.h x2.l (.node 0 0 x7.h x7.l .nil)⟩ : X) u8) = W := ⟨_, rfl⟩
      have HC := Lib.hid (close rfl hbN TH g8 D8.out.1 D8.out.2 hW)
      refine hK.out _ _ ⟨?_, World.there_setCells TH _ _ _⟩ (fun hHeld => ?_)
      · exact World.rangeAt_setCells_apart hHeld.1 _ _ _ (.inl (by omega))
      simp only [Act.put, List.getElem_toArray, List.getElem_cons_succ, List.getElem_cons_zero, List.setIfInBounds_toArray, List.set_cons_zero, List.set_cons_succ]
      refine wpAnyH_done (by kernel_rfl) ?_ _
      obtain ⟨rg, q1, q2, q3⟩ := HC.out
      have hlv := run_loadVar_mid W w.heap.size 0 _ _ _ rg Try.underlying26 rfl sizeIE2
      have HQ := Lib.hid (And.intro q1 (And.intro q2 q3))
      have HW := Lib.hid hW
      have HLV := Lib.hid hlv
      clear hHeld rg q1 q2 q3 hlv TH HC hW
      go_wp2
      refine bodyPost_ret (v := .agg (xcells (⟨⟨k, 0, ⟨#[]⟩⟩, .node 0 0 x2.h x2.l (.node 0 0 x7.h x7.l .nil)⟩ : X) u8).toArray) ?_ rfl ⟨_, u8, rfl, ?_, ?_, ?_, ?_⟩
      · have e := HLV.out
        rw [← HW.out] at e
        simp [results, Try.results39, asAddr, e]
      · have e := HQ.out.1; rw [← HW.out] at e; exact e
      · have h1 := G2.out.2; have h2 := G8.out.2; rw [HLim.out]; simp only [xsize, esize] at h1 h2 ⊢
        have h0 : (⟨#[]⟩ : ByteArray).size = 0 := rfl
        omega
      · have e := HQ.out.2.1; rw [← HW.out] at e; exact e
      · have e := HQ.out.2.2; rw [← HW.out] at e; exact e
theorem l3Draw_all (B : Nat) (a : Option Addr) (len cap b : Nat) : ∀ (d : Nat), d ≤ 20 → ∀ (w : World), Dw B a len cap b w → Calls Try.prog 39 #[.pointer (some ⟨b, 0, none⟩), .int .i64 (d : Int)] w (Drawn B a len cap b (limD d) w)
  | 0, hd, w, h => l3Draw_step 0 hd B a len cap b (fun h => absurd h (by omega)) w h
  | d + 1, hd, w, h => l3Draw_step (d + 1) hd B a len cap b (fun _ w h => by
      rw [show ((d + 1 : Nat) : Int) - 1 = (d : Int) by omega]
      exact l3Draw_all B a len cap b d (by omega) w h) w h
end Go.Proofs.Ytkhccpjkajhnpaa
/-
  A local variable that holds an expression, while more is drawn (for l3Any).
-/
namespace Go.Proofs.Ytkhccpjkajhnpaa
open Go.RowKit Go.Lib
set_option linter.unusedSimpArgs false
set_option linter.unusedVariables false

/-- It lies there whatever block n holds. -/
def EVx (n : Nat) (w : World) (lo : Nat) (F : EF) (v : Value) : Prop := ∀ W : World, (∀ (a : Addr) u, lo ≤ a.block → a.block ≠ n → w.cell? a = some u → W.cell? a = some u) → EV W lo F v
theorem EVx.ev {n lo : Nat} {w : World} {F : EF} {v : Value} (h : EVx n w lo F v) : EV w lo F v := h w fun _ _ _ _ h => h
theorem EVx.step {n lo : Nat} {w w' : World} {F : EF} {v : Value} (h : EVx n w lo F v) (hs : ∀ (a : Addr) u, lo ≤ a.block → a.block ≠ n → w.cell? a = some u → w'.cell? a = some u) : EVx n w' lo F v := fun W hW => h W fun a u h1 h2 h3 => hW a u h1 h2 (hs a u h1 h2 h3)
theorem EVx.wr {n lo b : Nat} {w w' : World} {F : EF} {v : Value} (h : EVx n w lo F v) (hw : Wr b w w') (hb : b + 1 ≤ lo) : EVx n w' lo F v := h.step fun a u h1 _ hc => hw.keeps a u (by omega) hc
theorem EVx.sets {n lo : Nat} {w : World} {F : EF} {v : Value} (h : EVx n w lo F v) (o : Nat) (vs : List Value) : EVx n (w.setCells n o vs) lo F v := h.step fun a u _ h2 hc => by
  rw [World.cell?_setCells_out n vs o w a (fun e _ => absurd e h2)]; exact hc
theorem EVx.of_old {n lo b : Nat} {w2 w : World} {F : EF} {v : Value} (h : EV w2 lo F v) (hw : Wr b w2 w) (hb : b + 1 ≤ lo) (hn : w2.heap.size ≤ n) : EVx n w lo F v := fun W hW =>
  h.same (Nat.le_refl _) fun a u hl hc => hW a u hl (by have := lt_of_cellA hc; omega) (hw.keeps a u (by omega) hc)
/-- A local variable at n that holds an expression; N is where the answer goes. -/
structure VarX (B : Nat) (a : Option Addr) (len cap b : Nat) (w0 : World) (N n : Nat) (x : X) (v : Value) (w : World) : Prop where
  rg : w.rangeAt n 0 (xcells x v)
  th : w.there n 0 4
  ex : EVx n w (N + 1) x.l v
  dw : Dw B a len cap b w
  wr : Wr b w0 w
  thN : w.there N 0 4
  hN : w0.heap.size = N
  hn : N < n
  hb : b < N
section
variable {B : Nat} {a : Option Addr} {len cap b : Nat} {w0 : World} {N n : Nat} {x : X} {v : Value} {w : World}
theorem VarX.step {w' : World} (h : VarX B a len cap b w0 N n x v w) (hw : Wr b w w') (d : Dw B a len cap b w') : VarX B a len cap b w0 N n x v w' :=
  ⟨range_wr h.rg hw (by have := h.hn; have := h.hb; omega), there_wr h.th hw (by have := h.hn; have := h.hb; omega), h.ex.wr hw (by have := h.hb; omega), d, h.wr.trans hw, there_wr h.thN hw (by have := h.hb; omega), h.hN, h.hn, h.hb⟩
theorem VarX.later {w' : World} (h : VarX B a len cap b w0 N n x v w) (hb : Below w.heap.size w w') : VarX B a len cap b w0 N n x v w' := h.step (.of_below hb) (h.dw.later hb)
theorem VarX.sets {y : X} {u : Value} (h : VarX B a len cap b w0 N n x v w) (he : EVx n w (N + 1) y.l u) : VarX B a len cap b w0 N n y u (w.setCells n 0 (xcells y u)) := by
  have hB : Below n w (w.setCells n 0 (xcells y u)) := below_sets _ _ (Below.refl _ _) (Nat.le_refl _)
  have hs : w.heap.size ≤ (w.setCells n 0 (xcells y u)).heap.size := by rw [size_sets]; exact Nat.le_refl _
  refine ⟨World.rangeAt_setCells_same _ _ _ _ h.th, World.there_setCells h.th _ _ _, he.sets _ _, ⟨h.dw.hlen, h.dw.hB, h.dw.hC.later (hB.mono (by have := h.dw.hB; have := h.hb; have := h.hn; omega)), h.dw.cur.later (hB.block b (by have := h.hb; have := h.hn; omega))⟩, ?_, World.there_setCells h.thN _ _ _, h.hN, h.hn, h.hb⟩
  exact ⟨hB.os.trans h.wr.os, hB.tape.trans h.wr.tape, hB.output.trans h.wr.output, Nat.le_trans h.wr.size hs, fun k hk hne => (hB.block k (by have := h.hN; have := h.hn; omega)).trans (h.wr.block k hk hne)⟩
theorem VarX.cells (h : VarX B a len cap b w0 N n x v w) : (w.cell? ⟨n, 0, Option.none⟩ = some (.int .i64 x.h.k) ∧ w.cell? ⟨n, 1, Option.none⟩ = some (.int .i64 x.h.n) ∧ w.cell? ⟨n, 2, Option.none⟩ = some (.string x.h.s) ∧ w.cell? ⟨n, 3, Option.none⟩ = some v) ∧ w.frozen? ⟨n, 0, Option.none⟩ = false ∧ w.frozen? ⟨n, 1, Option.none⟩ = false ∧ w.frozen? ⟨n, 2, Option.none⟩ = false := by
  have r0 := h.rg 0 _ rfl; have r1 := h.rg 1 _ rfl; have r2 := h.rg 2 _ rfl; have r3 := h.rg 3 _ rfl
  have t0 := (h.th 0 (by omega)).2; have t1 := (h.th 1 (by omega)).2; have t2 := (h.th 2 (by omega)).2
  simp only [Nat.zero_add, Nat.add_zero] at r0 r1 r2 r3 t0 t1 t2
  exact ⟨⟨r0, r1, r2, r3⟩, t0, t1, t2⟩
/-- One of the first three cells is set. -/
theorem VarX.set {y : X} (h : VarX B a len cap b w0 N n x v w) (i : Nat) (u : Value) (hi : i < 3) (hl : y.l = x.l) (hc : (xcells x v).set i u = xcells y v) : VarX B a len cap b w0 N n y v (w.setCell ⟨n, i, Option.none⟩ u) := by
  have e : w.setCell ⟨n, i, Option.none⟩ u = w.setCells n i [u] := rfl
  rw [e]
  have hB : Below n w (w.setCells n i [u]) := below_sets _ _ (Below.refl _ _) (Nat.le_refl _)
  have hs : w.heap.size ≤ (w.setCells n i [u]).heap.size := by rw [size_sets]; exact Nat.le_refl _
  have hth : w.there n i 1 := by have := there_part h.th i 1 (by omega); rwa [Nat.zero_add] at this
  refine ⟨?_, World.there_setCells h.th _ _ _, by rw [hl]; exact h.ex.sets _ _, ⟨h.dw.hlen, h.dw.hB, h.dw.hC.later (hB.mono (by have := h.dw.hB; have := h.hb; have := h.hn; omega)), h.dw.cur.later (hB.block b (by have := h.hb; have := h.hn; omega))⟩, ?_, World.there_setCells h.thN _ _ _, h.hN, h.hn, h.hb⟩
  · rw [← hc]
    intro j z hj
    rw [Nat.zero_add]
    by_cases hji : j = i
    · subst hji
      have hlen : j < (xcells x v).length := by simp [xcells]; omega
      rw [List.getElem?_set_self hlen] at hj
      have := World.rangeAt_setCells_same w n j [u] hth 0 u rfl
      rw [Nat.add_zero] at this
      rw [this]; exact hj
    · rw [List.getElem?_set_ne (fun e => hji e.symm)] at hj
      have hr := h.rg j z hj
      rw [Nat.zero_add] at hr
      rw [World.cell?_setCells_out n [u] i w ⟨n, j, Option.none⟩ (fun _ _ => by simp only [List.length_cons, List.length_nil]; omega)]
      exact hr
  · exact ⟨hB.os.trans h.wr.os, hB.tape.trans h.wr.tape, hB.output.trans h.wr.output, Nat.le_trans h.wr.size hs, fun k hk hne => (hB.block k (by have := h.hN; have := h.hn; omega)).trans (h.wr.block k hk hne)⟩
end
set_option maxHeartbeats 1000000 in
set_option maxRecDepth 100000 in
/-- l3Two, and where what it lays lies. -/
theorem l3Two_at (k : Int) (x y : X) (lo : Nat) (w : World) (u v : Value) (hu : EV w lo x.l u) (hv : EV w lo y.l v) : Calls Try.prog 43 #[.int .i64 k, .agg (xcells x u).toArray, .agg (xcells y v).toArray] w fun e w' => ∃ g, e = .returned (.agg (xcells ⟨⟨k, 0, ⟨#[]⟩⟩, .node 0 0 x.h x.l (.node 0 0 y.h y.l .nil)⟩ (.slice (some ⟨g, 0, Option.none⟩) 2 2)).toArray) ∧ w.heap.size ≤ g ∧ w'.rangeAt g 0 (xcells x u ++ xcells y v) ∧ Below w.heap.size w w' := by
  show Calls Try.prog 43 #[.int .i64 k, .agg #[.int .i64 x.h.k, .int .i64 x.h.n, .string x.h.s, u], .agg #[.int .i64 y.h.k, .int .i64 y.h.n, .string y.h.s, v]] w _
  obtain ⟨ua, uc, rfl⟩ := hu.shape
  obtain ⟨va, vc, rfl⟩ := hv.shape
  clear hu hv
  go_enter Try.func43, Try.ntmps43
  go_wp2
  have hb := (((alloc_below w (.cells #[.int .i64 x.h.k, .int .i64 x.h.n, .string x.h.s, .slice ua (elen x.l) uc] 26)).alloc (by simp) (.cells #[.int .i64 y.h.k, .int .i64 y.h.n, .string y.h.s, .slice va (elen y.l) vc] 26)).alloc (by simp; omega) (.cells #[.int .i64 k, .int .i64 0, .string ⟨#[]⟩, .slice (some ⟨w.heap.size + 1 + 1 + 1, 0, Option.none⟩) 2 2] 26)).alloc (by simp; omega) (.cells (xcells x (.slice ua (elen x.l) uc) ++ xcells y (.slice va (elen y.l) vc)).toArray 26)
  refine bodyPost_ret (v := .agg #[.int .i64 k, .int .i64 0, .string ⟨#[]⟩, .slice (some ⟨w.heap.size + 1 + 1 + 1, 0, Option.none⟩) 2 2]) (by simp [results, Try.results43, go_sem]) rfl ⟨_, rfl, by omega, last_range _ _ _ _ (by simp), hb⟩
theorem okOdd : ∀ z ∈ ([-1, 999999, 1000000] : List Int), True := fun _ _ => trivial
theorem okWords : ∀ z ∈ ([⟨#[]⟩, ⟨#[102, 111, 114]⟩, ⟨#[120]⟩] : List ByteArray), z.size ≤ 3 := by decide
def limA : Nat := 300
end Go.Proofs.Ytkhccpjkajhnpaa
/-
  The contract of l3CopyExp: the same expression in memory of its own.
-/
namespace Go.Proofs.Ytkhccpjkajhnpaa
open Go.RowKit Go.Lib
set_option linter.unusedSimpArgs false
set_option linter.unusedVariables false

def ERx (g : Nat) (w : World) (lo : Nat) : EF → List Value → Prop
  | .nil, xs => xs = []
  | .node _ _ h l r, xs => ∃ v ys, xs = .int .i64 h.k :: .int .i64 h.n :: .string h.s :: v :: ys ∧ EVx g w lo l v ∧ ERx g w lo r ys
theorem ERx.row {g lo : Nat} {w : World} : ∀ {F : EF} {xs : List Value}, ERx g w lo F xs → ERow w lo F xs
  | .nil, _, h => h
  | .node _ _ _ _ r, _, ⟨v, ys, e, hv, h⟩ => ⟨v, ys, e, hv.ev, ERx.row h⟩
theorem ERx.step {g g' lo : Nat} {w w' : World} (hs : ∀ (F : EF) (v : Value), EVx g w lo F v → EVx g' w' lo F v) : ∀ {F : EF} {xs : List Value}, ERx g w lo F xs → ERx g' w' lo F xs
  | .nil, _, h => h
  | .node _ _ _ l r, _, ⟨v, ys, e, hv, h⟩ => ⟨v, ys, e, hs l v hv, ERx.step hs h⟩
theorem ERx.app {g lo : Nat} {w : World} : ∀ {P R : EF} {xs ys : List Value}, ERx g w lo P xs → ERx g w lo R ys → ERx g w lo (eapp P R) (xs ++ ys)
  | .nil, _, _, _, h, k => by rw [show _ = [] from h]; exact k
  | .node _ _ _ _ r, _, _, _, ⟨v, zs, e, hv, h⟩, k => ⟨v, _, by rw [e]; rfl, hv, ERx.app h k⟩
theorem EVx.later {g lo : Nat} {w w' : World} {F : EF} {v : Value} (h : EVx g w lo F v) (hb : Below w.heap.size w w') : EVx g w' lo F v := h.step fun a u _ _ hc => keeps hb hc
theorem EVx.fresh {g lo lo' : Nat} {w : World} {F : EF} {v : Value} (h : EV w lo' F v) (hl : lo ≤ lo') (hg : g < lo') : EVx g w lo F v := fun W hW => h.same hl fun a u h1 hc => hW a u (by omega) (by omega) hc
/-- The row's block, where there is one. -/
def gOf (t : Value) : Nat := (t.ownBlock).getD 0
theorem EVx.grow {g' lo : Nat} {w w' : World} {t : Value} {F : EF} {v : Value} (h : EVx (gOf t) w lo F v) (hl : 0 < lo) (hg : w.grownBy w' t.ownBlock) (hat : t.ownBlock = some g' ∨ w.heap.size ≤ g') : EVx g' w' lo F v := fun W hW => h W fun a u h1 h2 hc => by
  have hlt := lt_of_cellA hc
  have hne : some a.block ≠ t.ownBlock := by
    intro e
    apply h2
    unfold gOf
    rw [← e]; rfl
  have hb := hg.block a.block hlt hne
  refine hW a u h1 ?_ (by rw [World.cell?_of_block hb]; exact hc)
  rcases hat with e | e
  · intro e2; exact hne (by rw [e, e2])
  · omega
theorem there_grown {w w6 : World} {r : Option Nat} {n o m : Nat} (h : w.there n o m) (hg : w.grownBy w6 r) (hne : r ≠ some n) : w6.there n o m := fun j hj => by
  obtain ⟨h1, h2⟩ := h j hj
  obtain ⟨u, hu⟩ := Option.isSome_iff_exists.1 h1
  have e := hg.block n (lt_of_cellA hu) (fun e => hne e.symm)
  refine ⟨by rw [World.cell?_of_block (a := ⟨n, o + j, Option.none⟩) e, hu]; rfl, ?_⟩
  unfold World.frozen? at h2 ⊢
  simp only [e]
  exact h2
/-- What a copy knows between two rounds: the box at N, the place of the answer at N + 1, the copy at N + 2, its row above. -/
structure Cpy (w0 : World) (N : Nat) (x : X) (v t : Value) (P : EF) (xs : List Value) (w : World) : Prop where
  box : w.rangeAt N 0 (xcells x v)
  th1 : w.there (N + 1) 0 4
  th2 : w.there (N + 2) 0 4
  var : w.rangeAt (N + 2) 0 (xcells ⟨x.h, P⟩ t)
  own : w.ownsRow (N + 3) 26 4 t (elen P) xs
  row : ERx (gOf t) w (N + 3) P xs
  low : Below w0.heap.size w0 w
  hN : w0.heap.size = N
  sz : N + 3 ≤ w.heap.size
theorem Cpy.later {w0 w w' : World} {N : Nat} {x : X} {v t : Value} {P : EF} {xs : List Value} (c : Cpy w0 N x v t P xs w) (hb : Below w.heap.size w w') : Cpy w0 N x v t P xs w' :=
  ⟨rangeAt_later c.box hb, there_later c.th1 hb, there_later c.th2 hb, rangeAt_later c.var hb, ownB c.own hb, c.row.step (fun _ _ h => h.later hb), c.low.trans (hb.mono c.low.size), c.hN, Nat.le_trans c.sz hb.size⟩
theorem own_ge {w : World} {B sz n : Nat} {e : TypeId} {t : Value} {xs : List Value} (h : w.ownsRow B e sz t n xs) : ∀ g, t.ownBlock = some g → B ≤ g ∧ g < w.heap.size := fun g hg => h.lt g hg
/-- One more behind those that are copied. -/
theorem Cpy.next {w0 w w6 : World} {N g cap p q : Nat} {x : X} {v t u : Value} {P : EF} {xs : List Value} {h : EH} {l : EF} (c : Cpy w0 N x v t P xs w) (he : EVx (gOf t) w (N + 3) l u)
    (hown : w6.ownsRow (N + 3) 26 4 (.slice (some ⟨g, 0, Option.none⟩) (elen P + 1) cap) (elen P + 1) (xs ++ xcells ⟨h, l⟩ u)) (hg : w.grownBy w6 t.ownBlock) (hat : t.ownBlock = some g ∨ w.heap.size ≤ g) :
    Cpy w0 N x v (.slice (some ⟨g, 0, Option.none⟩) (elen P + 1) cap) (eapp P (.node p q h l .nil)) (xs ++ xcells ⟨h, l⟩ u) (w6.setCell ⟨N + 2, 3, Option.none⟩ (.slice (some ⟨g, 0, Option.none⟩) (elen P + 1) cap)) := by
  have hne : ∀ k, k < N + 3 → t.ownBlock ≠ some k := fun k hk e => by have := (own_ge c.own k e).1; omega
  have hg3 : N + 3 ≤ g := by rcases hat with e | e; exact (own_ge c.own g e).1; exact Nat.le_trans c.sz e
  have e1 : w6.setCell ⟨N + 2, 3, Option.none⟩ (.slice (some ⟨g, 0, Option.none⟩) (elen P + 1) cap) = w6.setCells (N + 2) 3 [.slice (some ⟨g, 0, Option.none⟩) (elen P + 1) cap] := rfl
  have th6 := there_grown c.th2 hg (hne _ (by omega))
  have hb6 : Below w0.heap.size w0 w6 := c.low.grown hg c.low.size (fun k hk => by have := (own_ge c.own k hk).1; have := c.hN; omega)
  have hel : elen (eapp P (.node p q h l .nil)) = elen P + 1 := by rw [elen_app]; rfl
  have hx6 : ∀ (F : EF) (z : Value), EVx (gOf t) w (N + 3) F z → EVx g (w6.setCells (N + 2) 3 [.slice (some ⟨g, 0, Option.none⟩) (elen P + 1) cap]) (N + 3) F z := fun F z hz => (hz.grow (by omega) hg hat).step fun a y h1 _ hc => Keeps.sets w6 (show N + 2 < N + 3 by omega) _ _ a y h1 hc
  rw [e1]
  refine ⟨World.rangeAt_setCells_apart (range_grown c.box hg (hne _ (by omega))) _ _ _ (.inl (by omega)), World.there_setCells (there_grown c.th1 hg (hne _ (by omega))) _ _ _, World.there_setCells th6 _ _ _, ?_, ?_, ?_, below_sets _ _ hb6 (by have := c.hN; omega), c.hN, ?_⟩
  · have hv := range_grown c.var hg (hne _ (by omega))
    have h1 : w6.rangeAt (N + 2) 0 [.int .i64 x.h.k, .int .i64 x.h.n, .string x.h.s] := by have := rangeAt_part (ds := []) (es := [.int .i64 x.h.k, .int .i64 x.h.n, .string x.h.s]) hv rfl; exact this
    exact rangeAt_app (cs := [.int .i64 x.h.k, .int .i64 x.h.n, .string x.h.s]) (World.rangeAt_setCells_apart h1 _ _ _ (.inr (.inl (by simp)))) (World.rangeAt_setCells_same _ _ _ _ (there_part th6 3 1 (by omega)))
  · rw [hel]
    refine ⟨hown.1, ?_⟩
    rcases hown.2 with ⟨h0, _⟩ | ⟨g', cap', cur, h1, h2, h3, h4⟩
    · cases h0
    · refine .inr ⟨g', cap', cur, h1, h2, ?_, h4⟩
      rw [← e1, Below.heap_setCell _ _ _ _ (fun e => by have e' : g' = N + 2 := e; omega)]
      exact h3
  · have h1 := c.row.step hx6
    exact h1.app ⟨u, [], rfl, hx6 l u he, rfl⟩
  · rw [size_sets]; exact Nat.le_trans c.sz hg.size
end Go.Proofs.Ytkhccpjkajhnpaa
/-
  A local variable that holds a statement, while more is drawn (for l3DrawStmt, l3AnyStmt).
-/
namespace Go.Proofs.Ytkhccpjkajhnpaa
open Go.RowKit Go.Lib
set_option linter.unusedSimpArgs false
set_option linter.unusedVariables false

/-- A row of statements lies there whatever block n holds. -/
def SVx (n : Nat) (w : World) (lo : Nat) (F : SF) (v : Value) : Prop := ∀ W : World, (∀ (a : Addr) u, lo ≤ a.block → a.block ≠ n → w.cell? a = some u → W.cell? a = some u) → SV W lo F v
theorem SVx.sv {n lo : Nat} {w : World} {F : SF} {v : Value} (h : SVx n w lo F v) : SV w lo F v := h w fun _ _ _ _ h => h
theorem SVx.step {n lo : Nat} {w w' : World} {F : SF} {v : Value} (h : SVx n w lo F v) (hs : ∀ (a : Addr) u, lo ≤ a.block → a.block ≠ n → w.cell? a = some u → w'.cell? a = some u) : SVx n w' lo F v := fun W hW => h W fun a u h1 h2 h3 => hW a u h1 h2 (hs a u h1 h2 h3)
theorem SVx.wr {n lo b : Nat} {w w' : World} {F : SF} {v : Value} (h : SVx n w lo F v) (hw : Wr b w w') (hb : b + 1 ≤ lo) : SVx n w' lo F v := h.step fun a u h1 _ hc => hw.keeps a u (by omega) hc
theorem SVx.sets {n lo : Nat} {w : World} {F : SF} {v : Value} (h : SVx n w lo F v) (o : Nat) (vs : List Value) : SVx n (w.setCells n o vs) lo F v := h.step fun a u _ h2 hc => by
  rw [World.cell?_setCells_out n vs o w a (fun e _ => absurd e h2)]; exact hc
theorem SVx.fresh {g lo lo' : Nat} {w : World} {F : SF} {v : Value} (h : SV w lo' F v) (hl : lo ≤ lo') (hg : g < lo') : SVx g w lo F v := fun W hW => h.same hl fun a u h1 hc => hW a u (by omega) (by omega) hc
theorem SVx.nil (n : Nat) (w : World) (lo : Nat) (a : Option Addr) (c : Nat) : SVx n w lo .nil (.slice a 0 c) := fun W _ => SV.nil W lo a c
theorem EVx.nil (n : Nat) (w : World) (lo : Nat) (a : Option Addr) (c : Nat) : EVx n w lo .nil (.slice a 0 c) := fun W _ => EV.nil W lo a c
theorem SVx.grow {g' lo : Nat} {w w' : World} {t : Value} {F : SF} {v : Value} (h : SVx (gOf t) w lo F v) (hg : w.grownBy w' t.ownBlock) (hat : t.ownBlock = some g' ∨ w.heap.size ≤ g') : SVx g' w' lo F v := fun W hW => h W fun a u h1 h2 hc => by
  have hlt := lt_of_cellA hc
  have hne : some a.block ≠ t.ownBlock := by
    intro e
    apply h2
    unfold gOf
    rw [← e]; rfl
  have hb := hg.block a.block hlt hne
  refine hW a u h1 ?_ (by rw [World.cell?_of_block hb]; exact hc)
  rcases hat with e | e
  · intro e2; exact hne (by rw [e, e2])
  · omega
/-- The four expressions of a statement lie there whatever block n holds. -/
structure HVx (n : Nat) (w : World) (lo : Nat) (h : SH) (v1 v2 v3 v4 : Value) : Prop where
  e1 : EVx n w lo h.x1.l v1
  e2 : EVx n w lo h.x2.l v2
  e3 : EVx n w lo h.x3.l v3
  e4 : EVx n w lo h.x4.l v4
theorem HVx.map {n n' lo lo' : Nat} {w w' : World} {h : SH} {v1 v2 v3 v4 : Value} (x : HVx n w lo h v1 v2 v3 v4) (f : ∀ (F : EF) (v : Value), EVx n w lo F v → EVx n' w' lo' F v) : HVx n' w' lo' h v1 v2 v3 v4 := ⟨f _ _ x.e1, f _ _ x.e2, f _ _ x.e3, f _ _ x.e4⟩
theorem HVx.hv {n lo : Nat} {w : World} {h : SH} {v1 v2 v3 v4 : Value} (x : HVx n w lo h v1 v2 v3 v4) : HV w lo h v1 v2 v3 v4 := ⟨x.e1.ev, x.e2.ev, x.e3.ev, x.e4.ev⟩
/-- A local variable at n that holds a statement; N is where the answer goes. -/
structure VarS (B : Nat) (a : Option Addr) (len cap b : Nat) (w0 : World) (N n : Nat) (h : SH) (l : SF) (v1 v2 v3 v4 v : Value) (w : World) : Prop where
  rg : w.rangeAt n 0 (scells h v1 v2 v3 v4 v)
  th : w.there n 0 19
  ex : HVx n w (N + 1) h v1 v2 v3 v4
  sx : SVx n w (N + 1) l v
  dw : Dw B a len cap b w
  wr : Wr b w0 w
  thN : w.there N 0 19
  hN : w0.heap.size = N
  hn : N < n
  hb : b < N
section
variable {B : Nat} {a : Option Addr} {len cap b : Nat} {w0 : World} {N n : Nat} {h : SH} {l : SF} {v1 v2 v3 v4 v : Value} {w : World}
theorem VarS.step {w' : World} (s : VarS B a len cap b w0 N n h l v1 v2 v3 v4 v w) (hw : Wr b w w') (d : Dw B a len cap b w') : VarS B a len cap b w0 N n h l v1 v2 v3 v4 v w' :=
  ⟨range_wr s.rg hw (by have := s.hn; have := s.hb; omega), there_wr s.th hw (by have := s.hn; have := s.hb; omega), s.ex.map (fun _ _ e => e.wr hw (by have := s.hb; omega)), s.sx.wr hw (by have := s.hb; omega), d, s.wr.trans hw, there_wr s.thN hw (by have := s.hb; omega), s.hN, s.hn, s.hb⟩
theorem VarS.later {w' : World} (s : VarS B a len cap b w0 N n h l v1 v2 v3 v4 v w) (hb : Below w.heap.size w w') : VarS B a len cap b w0 N n h l v1 v2 v3 v4 v w' := s.step (.of_below hb) (s.dw.later hb)
theorem VarS.lt (s : VarS B a len cap b w0 N n h l v1 v2 v3 v4 v w) : n < w.heap.size := lt_of_cellA (s.rg 0 _ rfl)
/-- Some of its cells are set. -/
theorem VarS.put {h' : SH} {l' : SF} {u1 u2 u3 u4 u : Value} (s : VarS B a len cap b w0 N n h l v1 v2 v3 v4 v w) (i : Nat) (us : List Value) (hi : i + us.length ≤ 19)
    (hc : scells h' u1 u2 u3 u4 u = (scells h v1 v2 v3 v4 v).take i ++ (us ++ (scells h v1 v2 v3 v4 v).drop (i + us.length))) (he : HVx n w (N + 1) h' u1 u2 u3 u4) (hs : SVx n w (N + 1) l' u) :
    VarS B a len cap b w0 N n h' l' u1 u2 u3 u4 u (w.setCells n i us) := by
  have hB : Below n w (w.setCells n i us) := below_sets _ _ (Below.refl _ _) (Nat.le_refl _)
  have hsz : w.heap.size ≤ (w.setCells n i us).heap.size := by rw [size_sets]; exact Nat.le_refl _
  have hth : w.there n i us.length := by have := there_part s.th i us.length hi; rwa [Nat.zero_add] at this
  have hlen : (scells h v1 v2 v3 v4 v).length = 19 := rfl
  refine ⟨?_, World.there_setCells s.th _ _ _, he.map (fun _ _ e => e.sets _ _), hs.sets _ _, ⟨s.dw.hlen, s.dw.hB, s.dw.hC.later (hB.mono (by have := s.dw.hB; have := s.hb; have := s.hn; omega)), s.dw.cur.later (hB.block b (by have := s.hb; have := s.hn; omega))⟩, ?_, World.there_setCells s.thN _ _ _, s.hN, s.hn, s.hb⟩
  · rw [hc]
    intro j z hj
    rw [Nat.zero_add]
    by_cases h1 : j < i
    · rw [List.getElem?_append_left (by rw [List.length_take]; omega), List.getElem?_take_of_lt h1] at hj
      rw [World.cell?_setCells_out n us i w ⟨n, j, Option.none⟩ (fun _ _ => by simp only []; omega)]
      have := s.rg j z hj; rwa [Nat.zero_add] at this
    · rw [List.getElem?_append_right (by rw [List.length_take]; omega), List.length_take, show min i (scells h v1 v2 v3 v4 v).length = i by omega] at hj
      by_cases h2 : j - i < us.length
      · rw [List.getElem?_append_left h2] at hj
        have := World.rangeAt_setCells_same w n i us hth (j - i) z hj
        rwa [show i + (j - i) = j by omega] at this
      · rw [List.getElem?_append_right (by omega), List.getElem?_drop, show i + us.length + (j - i - us.length) = j by omega] at hj
        rw [World.cell?_setCells_out n us i w ⟨n, j, Option.none⟩ (fun _ _ => by simp only []; omega)]
        have := s.rg j z hj; rwa [Nat.zero_add] at this
  · exact ⟨hB.os.trans s.wr.os, hB.tape.trans s.wr.tape, hB.output.trans s.wr.output, Nat.le_trans s.wr.size hsz, fun k hk hne => (hB.block k (by have := s.hN; have := s.hn; omega)).trans (s.wr.block k hk hne)⟩
/-- What was drawn since lies there whatever block n holds. -/
theorem VarS.evx {w2 : World} {F : EF} {u : Value} (s : VarS B a len cap b w0 N n h l v1 v2 v3 v4 v w) (he : EV w2 w.heap.size F u) : EVx n w2 (N + 1) F u := EVx.fresh he (by have := s.lt; have := s.hn; omega) s.lt
theorem VarS.svx {w2 : World} {F : SF} {u : Value} (s : VarS B a len cap b w0 N n h l v1 v2 v3 v4 v w) (he : SV w2 w.heap.size F u) : SVx n w2 (N + 1) F u := SVx.fresh he (by have := s.lt; have := s.hn; omega) s.lt
theorem VarS.setS (s : VarS B a len cap b w0 N n h l v1 v2 v3 v4 v w) (t : ByteArray) : VarS B a len cap b w0 N n { h with s := t } l v1 v2 v3 v4 v (w.setCell ⟨n, 1, Option.none⟩ (.string t)) :=
  s.put 1 [.string t] (by simp) rfl ⟨s.ex.e1, s.ex.e2, s.ex.e3, s.ex.e4⟩ s.sx
theorem VarS.setK (s : VarS B a len cap b w0 N n h l v1 v2 v3 v4 v w) (k : Int) : VarS B a len cap b w0 N n { h with k := k } l v1 v2 v3 v4 v (w.setCell ⟨n, 0, Option.none⟩ (.int .i64 k)) :=
  s.put 0 [.int .i64 k] (by simp) rfl ⟨s.ex.e1, s.ex.e2, s.ex.e3, s.ex.e4⟩ s.sx
theorem VarS.set1 {x : X} {u : Value} (s : VarS B a len cap b w0 N n h l v1 v2 v3 v4 v w) (he : EVx n w (N + 1) x.l u) : VarS B a len cap b w0 N n { h with x1 := x } l u v2 v3 v4 v (w.setCells n 2 (xcells x u)) :=
  s.put 2 (xcells x u) (by simp [xcells]) rfl ⟨he, s.ex.e2, s.ex.e3, s.ex.e4⟩ s.sx
theorem VarS.set2 {x : X} {u : Value} (s : VarS B a len cap b w0 N n h l v1 v2 v3 v4 v w) (he : EVx n w (N + 1) x.l u) : VarS B a len cap b w0 N n { h with x2 := x } l v1 u v3 v4 v (w.setCells n 6 (xcells x u)) :=
  s.put 6 (xcells x u) (by simp [xcells]) rfl ⟨s.ex.e1, he, s.ex.e3, s.ex.e4⟩ s.sx
theorem VarS.set3 {x : X} {u : Value} (s : VarS B a len cap b w0 N n h l v1 v2 v3 v4 v w) (he : EVx n w (N + 1) x.l u) : VarS B a len cap b w0 N n { h with x3 := x } l v1 v2 u v4 v (w.setCells n 10 (xcells x u)) :=
  s.put 10 (xcells x u) (by simp [xcells]) rfl ⟨s.ex.e1, s.ex.e2, he, s.ex.e4⟩ s.sx
theorem VarS.set4 {x : X} {u : Value} (s : VarS B a len cap b w0 N n h l v1 v2 v3 v4 v w) (he : EVx n w (N + 1) x.l u) : VarS B a len cap b w0 N n { h with x4 := x } l v1 v2 v3 u v (w.setCells n 14 (xcells x u)) :=
  s.put 14 (xcells x u) (by simp [xcells]) rfl ⟨s.ex.e1, s.ex.e2, s.ex.e3, he⟩ s.sx
theorem VarS.setB {F : SF} {u : Value} (s : VarS B a len cap b w0 N n h l v1 v2 v3 v4 v w) (he : SVx n w (N + 1) F u) : VarS B a len cap b w0 N n h F v1 v2 v3 v4 u (w.setCell ⟨n, 18, Option.none⟩ u) :=
  s.put 18 [u] (by simp) rfl ⟨s.ex.e1, s.ex.e2, s.ex.e3, s.ex.e4⟩ he
/-- The cells that a walk stores into one by one. -/
theorem VarS.free (s : VarS B a len cap b w0 N n h l v1 v2 v3 v4 v w) : (w.cell? ⟨n, 0, Option.none⟩ = some (.int .i64 h.k) ∧ w.frozen? ⟨n, 0, Option.none⟩ = false) ∧ (w.cell? ⟨n, 1, Option.none⟩ = some (.string h.s) ∧ w.frozen? ⟨n, 1, Option.none⟩ = false) ∧ (w.cell? ⟨n, 18, Option.none⟩ = some v ∧ w.frozen? ⟨n, 18, Option.none⟩ = false) := by
  have r0 := s.rg 0 _ rfl; have r1 := s.rg 1 _ rfl; have r2 := s.rg 18 _ rfl
  have t0 := (s.th 0 (by omega)).2; have t1 := (s.th 1 (by omega)).2; have t2 := (s.th 18 (by omega)).2
  simp only [Nat.zero_add, Nat.add_zero] at r0 r1 r2 t0 t1 t2
  exact ⟨⟨r0, t0⟩, ⟨r1, t1⟩, r2, t2⟩
theorem VarS.part (s : VarS B a len cap b w0 N n h l v1 v2 v3 v4 v w) (i : Nat) (hi : i + 4 ≤ 19) : w.there n i 4 := by have := there_part s.th i 4 hi; rwa [Nat.zero_add] at this
/-- The answer is laid into its place. -/
theorem VarS.close {W : World} (s : VarS B a len cap b w0 N n h l v1 v2 v3 v4 v w) (hW : w.setCells N 0 (scells h v1 v2 v3 v4 v) = W) :
    W.rangeAt N 0 (scells h v1 v2 v3 v4 v) ∧ HV W N h v1 v2 v3 v4 ∧ SV W N l v ∧ Dw B a len cap b W ∧ Wr b w0 W := by
  have hB : Below N w W := by rw [← hW]; exact below_sets _ _ (Below.refl _ _) (Nat.le_refl _)
  have hs : w.heap.size ≤ W.heap.size := by rw [← hW, size_sets]; exact Nat.le_refl _
  have hk : Keeps (N + 1) w W := by rw [← hW]; exact Keeps.sets _ (by omega) _ _
  refine ⟨by rw [← hW]; exact World.rangeAt_setCells_same _ _ _ _ s.thN, s.ex.hv.same (Nat.le_succ _) hk, s.sx.sv.same (Nat.le_succ _) hk, ⟨s.dw.hlen, s.dw.hB, s.dw.hC.later (hB.mono (by have := s.dw.hB; have := s.hb; omega)), s.dw.cur.later (hB.block b s.hb)⟩, ?_⟩
  exact ⟨hB.os.trans s.wr.os, hB.tape.trans s.wr.tape, hB.output.trans s.wr.output, Nat.le_trans s.wr.size hs, fun k hk hne => (hB.block k (by have := s.hN; omega)).trans (s.wr.block k hk hne)⟩
end
def zeroX : X := ⟨⟨0, 0, ⟨#[]⟩⟩, .nil⟩
def zeroS (k : Int) : SH := ⟨k, ⟨#[]⟩, zeroX, zeroX, zeroX, zeroX⟩
abbrev nilS : Value := .slice Option.none 0 0
theorem scells_zero (k : Int) : scells (zeroS k) nilS nilS nilS nilS nilS = (#[.int .i64 k, .string ⟨#[]⟩, .int .i64 0, .int .i64 0, .string ⟨#[]⟩, nilS, .int .i64 0, .int .i64 0, .string ⟨#[]⟩, nilS, .int .i64 0, .int .i64 0, .string ⟨#[]⟩, nilS, .int .i64 0, .int .i64 0, .string ⟨#[]⟩, nilS, nilS] : Array Value).toList := rfl
def SRx (g : Nat) (w : World) (lo : Nat) : SF → List Value → Prop
  | .nil, xs => xs = []
  | .node _ _ h l r, xs => ∃ v1 v2 v3 v4 v ys, xs = scells h v1 v2 v3 v4 v ++ ys ∧ HVx g w lo h v1 v2 v3 v4 ∧ SVx g w lo l v ∧ SRx g w lo r ys
theorem SRx.row {g lo : Nat} {w : World} : ∀ {F : SF} {xs : List Value}, SRx g w lo F xs → SRow w lo F xs
  | .nil, _, h => h
  | .node _ _ _ _ r, _, ⟨v1, v2, v3, v4, v, ys, e, h1, h2, h⟩ => ⟨v1, v2, v3, v4, v, ys, e, h1.e1.ev, h1.e2.ev, h1.e3.ev, h1.e4.ev, h2.sv, SRx.row h⟩
theorem SRx.step {g g' lo : Nat} {w w' : World} (hs : ∀ (F : EF) (v : Value), EVx g w lo F v → EVx g' w' lo F v) (hs2 : ∀ (F : SF) (v : Value), SVx g w lo F v → SVx g' w' lo F v) : ∀ {F : SF} {xs : List Value}, SRx g w lo F xs → SRx g' w' lo F xs
  | .nil, _, h => h
  | .node _ _ _ l r, _, ⟨v1, v2, v3, v4, v, ys, e, h1, h2, h⟩ => ⟨v1, v2, v3, v4, v, ys, e, h1.map hs, hs2 l v h2, SRx.step hs hs2 h⟩
theorem SRx.app {g lo : Nat} {w : World} : ∀ {P R : SF} {xs ys : List Value}, SRx g w lo P xs → SRx g w lo R ys → SRx g w lo (sapp P R) (xs ++ ys)
  | .nil, _, _, _, h, k => by rw [show _ = [] from h]; exact k
  | .node _ _ _ _ r, _, _, _, ⟨v1, v2, v3, v4, v, zs, e, h1, h2, h⟩, k => ⟨v1, v2, v3, v4, v, _, by rw [e, List.append_assoc], h1, h2, SRx.app h k⟩
theorem own_wr {w w' : World} {b B sz n : Nat} {e : TypeId} {v : Value} {xs : List Value} (h : w.ownsRow B e sz v n xs) (hw : Wr b w w') (hb : b < B) : w'.ownsRow B e sz v n xs := by
  refine ⟨h.1, ?_⟩
  rcases h.2 with h0 | ⟨g, cap, cur, h1, h2, h3, h4⟩
  · exact .inl h0
  · exact .inr ⟨g, cap, cur, h1, h2, (hw.block g (lt_heap h3) (by omega)).trans h3, h4⟩
theorem ownShape' {w : World} {B sz n : Nat} {e : TypeId} {v : Value} {xs : List Value} (h : w.ownsRow B e sz v n xs) : ∃ a c, v = .slice a n c := by
  rcases h.2 with ⟨h1, h0⟩ | ⟨g, cap, cur, h1, _⟩
  · exact ⟨_, _, by rw [h0]; exact h1⟩
  · exact ⟨_, _, h1⟩
/-- A row of statements in a block of its own: nothing else of it lies there. -/
def SO (w : World) (lo : Nat) (F : SF) (v : Value) : Prop := ∃ xs, w.ownsRow lo 30 19 v (slen F) xs ∧ SRx (gOf v) w lo F xs
theorem SO.nil (w : World) (lo : Nat) : SO w lo .nil nilS := ⟨[], ⟨rfl, .inl ⟨rfl, rfl⟩⟩, rfl⟩
theorem SO.sv {w : World} {lo : Nat} {F : SF} {v : Value} (h : SO w lo F v) : SV w lo F v := by
  obtain ⟨xs, own, row⟩ := h
  have hrow := row.row
  rcases own.2 with ⟨h0, hn⟩ | ⟨g, c, cur, h1, h2, h3, h4⟩
  · have hP : F = .nil := by cases F with | nil => rfl | node => simp [slen] at hn
    subst hP; rw [h0]; exact SV.nil _ _ _ _
  · subst h1
    refine ⟨g, 0, _, c, rfl, .inl rfl, h2, SRow.laid 0 hrow fun j u hj => ?_⟩
    have hc := own.cells (g := g) rfl j u hj
    rw [Go.WideShapes.add_plain] at hc
    exact hc
theorem SO.gOf {w : World} {lo : Nat} {F : SF} {v : Value} (h : SO w lo F v) : gOf v = 0 ∨ lo ≤ gOf v := by
  obtain ⟨xs, own, row⟩ := h
  rcases own.2 with ⟨h0, hn⟩ | ⟨g, c, cur, h1, h2, h3, h4⟩
  · left; rw [h0]; rfl
  · right; rw [h1]; exact h2
theorem EV.mono {w : World} {lo lo' : Nat} {F : EF} {v : Value} (h : EV w lo F v) (hl : lo' ≤ lo) : EV w lo' F v := h.same hl fun _ _ _ hc => hc
theorem SV.mono {w : World} {lo lo' : Nat} {F : SF} {v : Value} (h : SV w lo F v) (hl : lo' ≤ lo) : SV w lo' F v := h.same hl fun _ _ _ hc => hc
theorem EVx.low {g lo lo' : Nat} {w W : World} {F : EF} {v : Value} (h : EVx g w lo F v) (hl : lo' ≤ lo) (hk : ∀ (a : Addr) u, lo ≤ a.block → w.cell? a = some u → W.cell? a = some u) : EVx g W lo' F v := fun V hV => (h V fun a u h1 h2 hc => hV a u (by omega) h2 (hk a u h1 hc)).mono hl
theorem SVx.low {g lo lo' : Nat} {w W : World} {F : SF} {v : Value} (h : SVx g w lo F v) (hl : lo' ≤ lo) (hk : ∀ (a : Addr) u, lo ≤ a.block → w.cell? a = some u → W.cell? a = some u) : SVx g W lo' F v := fun V hV => (h V fun a u h1 h2 hc => hV a u (by omega) h2 (hk a u h1 hc)).mono hl
theorem SRx.low {g lo lo' : Nat} {w w' : World} (hs : ∀ (F : EF) (v : Value), EVx g w lo F v → EVx g w' lo' F v) (hs2 : ∀ (F : SF) (v : Value), SVx g w lo F v → SVx g w' lo' F v) : ∀ {F : SF} {xs : List Value}, SRx g w lo F xs → SRx g w' lo' F xs
  | .nil, _, h => h
  | .node _ _ _ l r, _, ⟨v1, v2, v3, v4, v, ys, e, h1, h2, h⟩ => ⟨v1, v2, v3, v4, v, ys, e, h1.map hs, hs2 l v h2, SRx.low hs hs2 h⟩
/-- What lies above stays as it is. -/
theorem SO.low {w W : World} {lo lo' : Nat} {F : SF} {v : Value} (h : SO w lo F v) (hl : lo' ≤ lo) (hk : ∀ k, lo ≤ k → k < w.heap.size → W.heap[k]? = w.heap[k]?) : SO W lo' F v := by
  have hc : ∀ (a : Addr) u, lo ≤ a.block → w.cell? a = some u → W.cell? a = some u := fun a u h1 hc => by rw [World.cell?_of_block (hk a.block h1 (lt_of_cellA hc))]; exact hc
  obtain ⟨xs, own, row⟩ := h
  refine ⟨xs, ⟨own.1, ?_⟩, SRx.low (fun _ _ e => e.low hl hc) (fun _ _ e => e.low hl hc) row⟩
  rcases own.2 with h0 | ⟨g, c, cur, h1, h2, h3, h4⟩
  · exact .inl h0
  · exact .inr ⟨g, c, cur, h1, by omega, (hk g h2 (lt_heap h3)).trans h3, h4⟩
theorem SO.wr {w W : World} {b lo : Nat} {F : SF} {v : Value} (h : SO w lo F v) (hw : Wr b w W) (hb : b < lo) : SO W lo F v := h.low (Nat.le_refl _) fun k h1 h2 => hw.block k h2 (by omega)
theorem EVx.zero {w : World} {lo : Nat} {F : EF} {v : Value} (h : EV w lo F v) (h0 : 0 < lo) : EVx 0 w lo F v := fun W hW => h.same (Nat.le_refl _) fun a u h1 hc => hW a u h1 (by omega) hc
theorem HVx.zero {w : World} {lo : Nat} {h : SH} {v1 v2 v3 v4 : Value} (x : HV w lo h v1 v2 v3 v4) (h0 : 0 < lo) : HVx 0 w lo h v1 v2 v3 v4 := ⟨EVx.zero x.e1 h0, EVx.zero x.e2 h0, EVx.zero x.e3 h0, EVx.zero x.e4 h0⟩
/-- What was there ahead of a draw, behind it and behind what was written since: whatever the block holds that was drawn. -/
theorem EVx.end {g n N b : Nat} {w w' W : World} {F : EF} {v : Value} (h : EVx n w (N + 1) F v) (hw : Wr b w w') (hb : b < N) (hg : g = 0 ∨ w.heap.size ≤ g) (hk : ∀ (a : Addr) u, N + 1 ≤ a.block → a.block ≠ n → w'.cell? a = some u → W.cell? a = some u) : EVx g W N F v := fun V hV =>
  (h V fun a u h1 h2 hc => hV a u (by omega) (by have := lt_of_cellA hc; omega) (hk a u h1 h2 (hw.keeps a u (by omega) hc))).mono (Nat.le_succ _)
theorem HVx.end {g n N b : Nat} {w w' W : World} {h : SH} {v1 v2 v3 v4 : Value} (x : HVx n w (N + 1) h v1 v2 v3 v4) (hw : Wr b w w') (hb : b < N) (hg : g = 0 ∨ w.heap.size ≤ g) (hk : ∀ (a : Addr) u, N + 1 ≤ a.block → a.block ≠ n → w'.cell? a = some u → W.cell? a = some u) : HVx g W N h v1 v2 v3 v4 := x.map fun _ _ e => EVx.end e hw hb hg hk
theorem keep2 {w W : World} {n N o : Nat} {u : Value} {cs : List Value} (hW : (w.setCell ⟨n, o, Option.none⟩ u).setCells N 0 cs = W) : ∀ (a : Addr) z, N + 1 ≤ a.block → a.block ≠ n → w.cell? a = some z → W.cell? a = some z := fun a z h1 h2 hc => by
  rw [← hW, World.cell?_setCells_out N cs 0 _ a (fun e _ => absurd e (by omega)), show w.setCell ⟨n, o, Option.none⟩ u = w.setCells n o [u] from rfl, World.cell?_setCells_out n [u] o w a (fun e _ => absurd e h2)]
  exact hc
theorem heap2 {w W : World} {n N o S : Nat} {u : Value} {cs : List Value} (hW : (w.setCell ⟨n, o, Option.none⟩ u).setCells N 0 cs = W) (hn : n < S) (hN : N < S) : ∀ k, S ≤ k → k < w.heap.size → W.heap[k]? = w.heap[k]? := fun k h1 h2 => by
  rw [← hW, World.heap_setCells_other _ N 0 cs (by rw [show w.setCell ⟨n, o, Option.none⟩ u = w.setCells n o [u] from rfl, size_sets]; exact h2) (by omega), show w.setCell ⟨n, o, Option.none⟩ u = w.setCells n o [u] from rfl, World.heap_setCells_other w n o [u] h2 (by omega)]
/-- A statement was drawn. -/
def DrawnS (B : Nat) (a : Option Addr) (len cap b lim : Nat) (w : World) (e : Ending) (w' : World) : Prop :=
  ∃ (h : SH) (l : SF) (v1 v2 v3 v4 v : Value), e = .returned (.agg (scells h v1 v2 v3 v4 v).toArray) ∧ HV w' w.heap.size h v1 v2 v3 v4 ∧ SV w' w.heap.size l v ∧ hsize h + ssize l ≤ lim ∧ Dw B a len cap b w' ∧ Wr b w w' ∧ HVx (gOf v) w' w.heap.size h v1 v2 v3 v4 ∧ SO w' w.heap.size l v
/-- A row of statements was drawn. -/
def DrawnR (B : Nat) (a : Option Addr) (len cap b lim : Nat) (w : World) (e : Ending) (w' : World) : Prop :=
  ∃ (F : SF) (v : Value), e = .returned v ∧ SV w' w.heap.size F v ∧ ssize F ≤ lim ∧ Dw B a len cap b w' ∧ Wr b w w' ∧ SO w' w.heap.size F v
end Go.Proofs.Ytkhccpjkajhnpaa
