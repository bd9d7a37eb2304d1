/-
  Texts in one: A8Draw, A8Any.
-/
import Derived.Test.YtjdpddcnogdekaaGreatP30ofMx
import Derived.Test.YtjdpddcnogdekaaGreatP34ofMx
import Derived.Test.YtjdpddcnogdekaaGreatP35ofMx
/-
  The draws of chapter 8: l8Draw, l8Any, l8Binds.
-/
namespace Go.Proofs.YtjdpddcnogdekaaGreat
open Go.RowKit Go.Lib
set_option linter.unusedSimpArgs false
set_option linter.unusedVariables false

theorem l1Once_is8 (B : Nat) (a : Option Addr) (len cap b : Nat) (n : Int) (w : World) (d : Dw B a len cap b w) (hn0 : 0 < n) :
    Calls Tryz.prog 25 #[.pointer (some ⟨b, 0, none⟩), .int .i64 n] w fun e w' => ∃ x : Bool, e = .returned (.bool x) ∧ Dw B a len cap b w' ∧ Wr b w w' :=
  (l1Once B a len cap b n w d.hlen d.hB d.hC d.cur hn0).mono fun e w' ⟨x, h1, h2, h3⟩ => ⟨x, h1, d.touch h3 h2, .of_touch h3⟩
theorem heap_w8 {A B : World} {b k : Nat} {x : Obj} (h : A.heap[k]? = some x) (hw : Wr b A B) (hne : k ≠ b) : B.heap[k]? = some x := (hw.block k (lt_of_heap h) hne).trans h
theorem own_w8 {A B : World} {b D sz n : Nat} {e : TypeId} {v : Value} {xs : List Value} (h : A.ownsRow D e sz v n xs) (hw : Wr b A B) (hb : b < D) : B.ownsRow D e sz v n xs :=
  own_later8 h fun g _ hg hh => hw.block g (lt_of_heap hh) (by omega)
theorem Dw.below8 {B : Nat} {a : Option Addr} {len cap b n : Nat} {w w' : World} (d : Dw B a len cap b w) (hb : Below n w w') (hn : b < n) : Dw B a len cap b w' :=
  ⟨d.hlen, d.hB, d.hC.later (hb.mono (by have := d.hB; omega)), d.cur.later (hb.block b hn)⟩
theorem Wr.below8 {b n : Nat} {w A B : World} (h : Wr b w A) (k : Below n A B) (hn : w.heap.size ≤ n) : Wr b w B :=
  ⟨k.os.trans h.os, k.tape.trans h.tape, k.output.trans h.output, Nat.le_trans h.size k.size, fun i hi hne => (k.block i (by omega)).trans (h.block i hi hne)⟩
theorem heap_n8 {A B : World} {n k : Nat} {x : Obj} (h : A.heap[k]? = some x) (hb : Below n A B) (hk : k < n) : B.heap[k]? = some x := (hb.block k hk).trans h
/-- A sum was drawn, with this about it. -/
def DrawnT8 (p : Int → List AR → Prop) (B : Nat) (a : Option Addr) (len cap b : Nat) (w : World) (e : Ending) (w' : World) : Prop :=
  ∃ (c : Int) (ts : List AR) (v : Value), e = .returned (.agg #[.int .i64 c, v]) ∧ p c ts ∧ w'.ownsRow w.heap.size 70 2 v ts.length (acells ts) ∧ Dw B a len cap b w' ∧ Wr b w w'
def nm3 : List ByteArray := [⟨#[105]⟩, ⟨#[106]⟩, ⟨#[107]⟩]
/-- Names of the first k in order, small numbers. -/
def Sub8 (k : Nat) (ts : List AR) : Prop := Asc8 ts ∧ ts.length ≤ k ∧ ∀ t ∈ ts, (∃ j, j < k ∧ nm3[j]? = some t.s) ∧ -2 ≤ t.n ∧ t.n ≤ 4 ∧ t.n ≠ 0
theorem Sub8.more {k : Nat} {ts : List AR} (h : Sub8 k ts) : Sub8 (k + 1) ts :=
  ⟨h.1, by have := h.2.1; omega, fun t ht => by obtain ⟨⟨j, h1, h2⟩, h3⟩ := h.2.2 t ht; exact ⟨⟨j, by omega, h2⟩, h3⟩⟩
theorem nm3_lt {j k : Nat} {s t : ByteArray} (hj : nm3[j]? = some s) (hk : nm3[k]? = some t) (h : j < k) : blt s t = true := by
  have : k < 3 := (List.getElem?_eq_some_iff.1 hk).1
  have : (j = 0 ∧ k = 1) ∨ (j = 0 ∧ k = 2) ∨ (j = 1 ∧ k = 2) := by omega
  rcases this with ⟨rfl, rfl⟩ | ⟨rfl, rfl⟩ | ⟨rfl, rfl⟩ <;> (simp only [nm3, List.getElem?_cons_zero, List.getElem?_cons_succ, Option.some.injEq] at hj hk; subst hj; subst hk; decide +kernel)
theorem Sub8.snoc {k : Nat} {ts : List AR} {s : ByteArray} {n : Int} (h : Sub8 k ts) (hs : nm3[k]? = some s) (hn : -2 ≤ n ∧ n ≤ 4 ∧ n ≠ 0) : Sub8 (k + 1) (ts ++ [⟨s, n⟩]) := by
  refine ⟨?_, by have := h.2.1; simp; omega, fun t ht => ?_⟩
  · refine List.pairwise_append.2 ⟨h.1, by simp, fun x hx y hy => ?_⟩
    simp only [List.mem_cons, List.not_mem_nil, or_false] at hy
    subst hy
    obtain ⟨⟨j, h1, h2⟩, _⟩ := h.2.2 x hx
    exact nm3_lt h2 hs h1
  · rcases List.mem_append.1 ht with ht | ht
    · exact h.more.2.2 t ht
    · simp only [List.mem_cons, List.not_mem_nil, or_false] at ht
      subst ht
      exact ⟨⟨k, by omega, hs⟩, hn⟩
def Small8 (c : Int) (ts : List AR) : Prop := (-4 ≤ c ∧ c ≤ 8) ∧ Sub8 3 ts
set_option maxHeartbeats 4000000 in
set_option maxRecDepth 100000 in
theorem l8Draw_is (B : Nat) (a : Option Addr) (len cap b : Nat) (w : World) (d : Dw B a len cap b w) :
    Calls Tryz.prog 26 #[.pointer (some ⟨b, 0, none⟩)] w (DrawnT8 Small8 B a len cap b w) := by
  obtain ⟨i0, hi0, hz0, hz1, hz2⟩ := info_parts infoIT8
  have hbz : b < w.heap.size := d.cur.lt
  have bz := alloc_below w (.cells #[.int .i64 0, .slice Option.none 0 0] 26)
  have D0 := Lib.hid (d.later bz)
  have R0 := Lib.hid (heap_last w (.cells #[.int .i64 0, .slice Option.none 0 0] 26))
  have WR0 : Hid (Wr b w (w.alloc (.cells #[.int .i64 0, .slice Option.none 0 0] 26))) := Wr.of_below bz
  clear d bz
  go_enter Tryz.func26, Tryz.ntmps26
  go_wp2_with fail
  refine (l1Below_is B a len cap b 13 _ D0.out (by omega)).mono ?_
  rintro e w1 ⟨x, rfl, ⟨x0, x1⟩, d1, wr1⟩
  have hs1 : w.heap.size + 1 ≤ w1.heap.size := by have := wr1.size; rwa [World.size_alloc] at this
  have R1 := Lib.hid (heap_w8 R0.out wr1 (by omega))
  have D1 := Lib.hid d1
  have WR1 := Lib.hid (WR0.out.trans wr1)
  obtain ⟨cc, hcc⟩ : ∃ cc, x - 4 = cc := ⟨_, rfl⟩
  have HC : Hid (-4 ≤ cc ∧ cc ≤ 8) := show _ ∧ _ by omega
  have Q2 := Lib.hid (heap2t w1 (.cells #[.int .i64 cc, .slice Option.none 0 0] 26) (.cells #[.string ⟨#[105]⟩, .string ⟨#[106]⟩, .string ⟨#[107]⟩] 9))
  have B2 : Hid (Below w1.heap.size w1 ((w1.alloc (.cells #[.int .i64 cc, .slice Option.none 0 0] 26)).alloc (.cells #[.string ⟨#[105]⟩, .string ⟨#[106]⟩, .string ⟨#[107]⟩] 9))) := show Below _ _ _ from (alloc_below w1 _).alloc (by simp) _
  clear d1 wr1 R0 D0 WR0
  go_wp2
  go_loopw [5] (fun i wr => ∃ (k : Nat) (X : List AR) (v : Value), k ≤ 3 ∧ i = .int .i64 (k : Int) ∧ Hid (Sub8 k X) ∧ Hid (wr.ownsRow (w1.heap.size + 1 + 1) 70 2 v X.length (acells X)) ∧ Hid (wr.heap[w1.heap.size]? = some (.cells #[.int .i64 cc, v] 26)) ∧ Hid (wr.heap[w1.heap.size + 1]? = some (.cells #[.string ⟨#[105]⟩, .string ⟨#[106]⟩, .string ⟨#[107]⟩] 9)) ∧ Hid (wr.heap[w.heap.size]? = some (.cells #[.int .i64 0, .slice Option.none 0 0] 26)) ∧ Hid (Dw B a len cap b wr) ∧ Hid (Wr b w wr) ∧ w1.heap.size + 1 + 1 ≤ wr.heap.size) (fun i _ => 3 - (RowKit.intOf i).toNat)
  case atStart => exact ⟨0, [], .slice Option.none 0 0, by omega, rfl, ⟨by simp [Asc8], by simp, by simp⟩, World.ownsRow_nil _ _ _ _, Q2.out.1, Q2.out.2, heap_b8 R1.out B2.out, D1.out.later B2.out, WR1.out.trans (.of_below B2.out), by simp⟩
  case round =>
    obtain ⟨k, X, v, hk, rfl, HX, HOw, HT, HN, HR, HD, HW, hq⟩ := hrel
    obtain ⟨oa, oc, rfl⟩ := ownShape HOw.out
    have HXN : Hid (X.length ≤ 8000000) := show _ ≤ _ by have := HX.out.2.1; omega
    by_cases hlt : k < 3
    · have hltI : (k : Int) < 3 := by omega
      go_wp2_with fail
      refine (l1Once_is8 B a len cap b 2 _ HD.out (by omega)).mono ?_
      rintro e w5 ⟨y, rfl, d5, wr5⟩
      cases y with
      | false =>
        have O5 := Lib.hid (own_w8 HOw.out wr5 (by omega))
        have T5 := Lib.hid (heap_w8 HT.out wr5 (by omega))
        have N5 := Lib.hid (heap_w8 HN.out wr5 (by omega))
        have R5 := Lib.hid (heap_w8 HR.out wr5 (by omega))
        have D5 := Lib.hid d5
        have W5 := Lib.hid (HW.out.trans wr5)
        have hq5 := Nat.le_trans hq wr5.size
        have HX5 := Lib.hid HX.out.more
        clear d5 wr5 HX HOw HT HN HR HD HW
        go_wp2
        go_roundw
        case rel => exact ⟨k + 1, X, .slice oa X.length oc, by omega, by go_num, HX5.out, O5.out, T5.out, N5.out, R5.out, D5.out, W5.out, hq5⟩
        case measure => simp [RowKit.intOf]; omega
      | true =>
        go_wp2_with fail
        have ba := alloc_below w5 (.cells #[.int .i64 1, .int .i64 1, .int .i64 2, .int .i64 3, .int .i64 (-1), .int .i64 (-2), .int .i64 4] 3)
        have hbw5 : b < w5.heap.size := d5.cur.lt
        refine (l1Int_is B a len cap b w5.heap.size 7 7 (fun z => -2 ≤ z ∧ z ≤ 4 ∧ z ≠ 0) _ (d5.later ba) (by omega) (by omega) (by omega) (fun j hj => ints_cell w5 [1, 1, 2, 3, -1, -2, 4] _ (by decide) _ rfl j hj)).mono ?_
        rintro e w6 ⟨nn, rfl, hn, d6, wr6⟩
        have wr56 : Wr b wr w6 := (wr5.trans (.of_below ba)).trans wr6
        have HNN := Lib.hid hn
        have O6 := Lib.hid (own_w8 HOw.out wr56 (by omega))
        have T6 := Lib.hid (heap_w8 HT.out wr56 (by omega))
        have N6 := Lib.hid (heap_w8 HN.out wr56 (by omega))
        have R6 := Lib.hid (heap_w8 HR.out wr56 (by omega))
        have D6 := Lib.hid d6
        have W6 := Lib.hid (HW.out.trans wr56)
        have hq6 := Nat.le_trans hq wr56.size
        obtain ⟨s, hs⟩ : ∃ s, nm3[k]? = some s := ⟨nm3[k]'(by simpa [nm3] using hlt), List.getElem?_eq_getElem _⟩
        have HS := Lib.hid hs
        have NC : Hid (∀ wx : World, wx.heap[w1.heap.size + 1]? = some (.cells #[.string ⟨#[105]⟩, .string ⟨#[106]⟩, .string ⟨#[107]⟩] 9) → wx.cell? ⟨w1.heap.size + 1, k, Option.none⟩ = some (.string s)) := show ∀ wx : World, _ → _ from by
          intro wx hx
          have : k = 0 ∨ k = 1 ∨ k = 2 := by omega
          rcases this with rfl | rfl | rfl <;> (simp only [nm3, List.getElem?_cons_zero, List.getElem?_cons_succ, Option.some.injEq] at hs; subst hs; simp [World.cell?, hx])
        clear d5 wr5 ba d6 wr6 wr56 hn hs HOw HT HN HR HD HW
        go_wp2_with fail
        have bd : Below w6.heap.size w6 w6.drew := (Below.refl _ w6).drew
        obtain ⟨w7, Wd⟩ : ∃ w7, Hid (w7 = w6.drew) := ⟨_, rfl⟩
        have hS : w7.heap[w1.heap.size]? = some (.cells #[.int .i64 cc, .slice oa X.length oc] 26) ∧ w7.heap[w1.heap.size + 1]? = some (.cells #[.string ⟨#[105]⟩, .string ⟨#[106]⟩, .string ⟨#[107]⟩] 9) := by rw [Wd.out]; exact ⟨heap_b8 T6.out bd, heap_b8 N6.out bd⟩
        refine wp_region_last (fun w' => w'.heap[w1.heap.size]? = some (.cells #[.int .i64 cc, .slice oa X.length oc] 26) ∧ w'.heap[w1.heap.size + 1]? = some (.cells #[.string ⟨#[105]⟩, .string ⟨#[106]⟩, .string ⟨#[107]⟩] 9)) 11 (by kernel_rfl) ?_
        rw [← Wd.out] at bd ⊢
        have O7 := Lib.hid (own_below8 O6.out bd)
        have R7 := Lib.hid (heap_b8 R6.out bd)
        have N7 := Lib.hid hS.2
        have D7 := Lib.hid (D6.out.later bd)
        have W7 := Lib.hid (W6.out.trans (.of_below bd))
        have hq5 : w1.heap.size + 1 + 1 ≤ w7.heap.size := Nat.le_trans hq6 bd.size
        have HV := Lib.hid O7.out.lt
        clear bd Wd
        refine wpAnyL_take (i := 0) (v := .pointer (some ⟨w1.heap.size, 1, Option.none⟩)) rfl (by kernel_rfl) (by kernel_rfl) (by kernel_rfl) (by kernel_rfl) (fun _ _ _ h => h) (Or.inl ⟨by rfl, ?yda0⟩) hS ?_
        case yda0 => intro w hSw; go_simp
        simp only [Act.put, List.getElem_toArray, List.getElem_cons_succ, List.getElem_cons_zero, List.setIfInBounds_toArray, List.set_cons_zero, List.set_cons_succ]
        refine wpAnyL_take (i := 1) (v := .slice oa X.length oc) rfl (by kernel_rfl) (by kernel_rfl) (by kernel_rfl) (by kernel_rfl) (fun _ _ _ h => h) (Or.inl ⟨by rfl, ?yda1⟩) hS ?_
        case yda1 => intro w hSw; obtain ⟨⟨j0, j1⟩, _⟩ := blk2 hSw.1; go_simp
        simp only [Act.put, List.getElem_toArray, List.getElem_cons_succ, List.getElem_cons_zero, List.setIfInBounds_toArray, List.set_cons_zero, List.set_cons_succ]
        refine wpAnyL_take (i := 2) (v := .slice (some ⟨w1.heap.size + 1, 0, Option.none⟩) 3 3) rfl (by kernel_rfl) (by kernel_rfl) (by kernel_rfl) (by kernel_rfl) (fun _ _ _ h => h) (Or.inl ⟨by rfl, ?yda2⟩) hS ?_
        case yda2 => intro w hSw; go_simp
        simp only [Act.put, List.getElem_toArray, List.getElem_cons_succ, List.getElem_cons_zero, List.setIfInBounds_toArray, List.set_cons_zero, List.set_cons_succ]
        refine wpAnyL_take (i := 3) (v := .int .i64 (k : Int)) rfl (by kernel_rfl) (by kernel_rfl) (by kernel_rfl) (by kernel_rfl) (fun _ _ _ h => h) (Or.inl ⟨by rfl, ?yda3⟩) hS ?_
        case yda3 => intro w hSw; go_simp
        simp only [Act.put, List.getElem_toArray, List.getElem_cons_succ, List.getElem_cons_zero, List.setIfInBounds_toArray, List.set_cons_zero, List.set_cons_succ]
        refine wpAnyL_take (i := 4) (v := .pointer (some ⟨w1.heap.size + 1, k, Option.none⟩)) rfl (by kernel_rfl) (by kernel_rfl) (by kernel_rfl) (by kernel_rfl) (fun _ _ _ h => h) (Or.inl ⟨by rfl, ?yda4⟩) hS ?_
        case yda4 => intro w hSw; go_simp
        simp only [Act.put, List.getElem_toArray, List.getElem_cons_succ, List.getElem_cons_zero, List.setIfInBounds_toArray, List.set_cons_zero, List.set_cons_succ]
        refine wpAnyL_take (i := 5) (v := .string s) rfl (by kernel_rfl) (by kernel_rfl) (by kernel_rfl) (by kernel_rfl) (fun _ _ _ h => h) (Or.inl ⟨by rfl, ?yda5⟩) hS ?_
        case yda5 => intro w hSw; have q := NC.out _ hSw.2; go_simp
        simp only [Act.put, List.getElem_toArray, List.getElem_cons_succ, List.getElem_cons_zero, List.setIfInBounds_toArray, List.set_cons_zero, List.set_cons_succ]
        refine wpAnyL_take (i := 6) (v := .int .i64 nn) rfl (by kernel_rfl) (by kernel_rfl) (by kernel_rfl) (by kernel_rfl) (fun _ _ _ h => h) (Or.inl ⟨by rfl, ?yda6⟩) hS ?_
        case yda6 => intro w hSw; go_simp
        simp only [Act.put, List.getElem_toArray, List.getElem_cons_succ, List.getElem_cons_zero, List.setIfInBounds_toArray, List.set_cons_zero, List.set_cons_succ]
        refine wpAnyL_take (i := 7) (v := .agg #[.string s, .int .i64 nn]) rfl (by kernel_rfl) (by kernel_rfl) (by kernel_rfl) (by kernel_rfl) (fun _ _ _ h => h) (Or.inl ⟨by rfl, ?yda7⟩) hS ?_
        case yda7 => intro w hSw; go_simp
        simp only [Act.put, List.getElem_toArray, List.getElem_cons_succ, List.getElem_cons_zero, List.setIfInBounds_toArray, List.set_cons_zero, List.set_cons_succ]
        have HS0 := Lib.hid hS
        refine wpAnyL_ready (rs := [8]) (by kernel_rfl) (by simp) ?_
        refine AllReadyL.cons rfl (fun K hK => ?_) AllReadyL.nil
        rw [if_pos (by rfl)]
        simp only [List.getElem_toArray, List.getElem_cons_succ, List.getElem_cons_zero]
        go_wp2_with fail
        have hS2 := And.intro (heap_n8 HS0.out.1 (alloc_below w7 (.cells #[.string s, .int .i64 nn] 70)) (by omega)) (heap_n8 HS0.out.2 (alloc_below w7 (.cells #[.string s, .int .i64 nn] 70)) (by omega))
        refine hK.out _ _ (fun _ => hS2) ?_
        clear hS hK
        have hS := hS2
        clear hS2
        refine wpAnyL_ready (rs := [9]) (by kernel_rfl) (by simp) ?_
        refine AllReadyL.cons rfl (fun K hK => ?_) AllReadyL.nil
        rw [if_pos (by rfl)]
        simp only [List.getElem_toArray, List.getElem_cons_succ, List.getElem_cons_zero]
        refine wp_append_own _ _ _ 24 (by rfl) (w1.heap.size + 1 + 1) 70 i0 _ 2 24 Tryz.underlying24 hi0 hz0 hz1 hz2 rfl (by decide) _ _ _ (by rfl) (O7.out.alloc _) ⟨w7.heap.size, 0, Option.none⟩ 1 1 [.string s, .int .i64 nn] (by rfl) (by rfl) (new2T _ _ _ _) (two8 _ _) (by have := HXN.out; unfold maxLen; omega) (by have := HXN.out; omega) (by simp; omega) ?_
        intro v' w8 hown8 hgrow8 _
        obtain ⟨a8, c8, rfl⟩ := ownShape hown8
        have F8 : Below (w1.heap.size + 1 + 1) w7 w8 := ((Below.refl _ w7).alloc hq5 _).grown hgrow8 (by simp; omega) (fun k hk => (HV.out k hk).1)
        have D8 := Lib.hid (((D7.out.below8 F8 (by omega))).below8 ((Below.refl w1.heap.size w8).setCell (p := ⟨w1.heap.size, 1, Option.none⟩) (Nat.le_refl _) (.slice a8 (X.length + 1) c8)) (by omega))
        have WR8 := Lib.hid ((W7.out.below8 F8 (by omega)).below8 ((Below.refl w1.heap.size w8).setCell (p := ⟨w1.heap.size, 1, Option.none⟩) (Nat.le_refl _) (.slice a8 (X.length + 1) c8)) (by omega))
        have HF8 := Lib.hid F8
        have hS2 := And.intro (heap_n8 HS0.out.1 F8 (by omega)) (heap_n8 HS0.out.2 F8 (by omega))
        refine hK.out _ _ (fun _ => hS2) ?_
        clear hS hK
        have hS := hS2
        clear hS2
        clear F8
        simp only [Act.put, List.getElem_toArray, List.getElem_cons_succ, List.getElem_cons_zero, List.setIfInBounds_toArray, List.set_cons_zero, List.set_cons_succ]
        refine wpAnyL_take (i := 10) (v := .pointer (some ⟨w1.heap.size, 1, Option.none⟩)) rfl (by kernel_rfl) (by kernel_rfl) (by kernel_rfl) (by kernel_rfl) (fun _ _ _ h => h) (Or.inl ⟨by rfl, ?yda10⟩) hS ?_
        case yda10 => intro w hSw; go_simp
        simp only [Act.put, List.getElem_toArray, List.getElem_cons_succ, List.getElem_cons_zero, List.setIfInBounds_toArray, List.set_cons_zero, List.set_cons_succ]
        have T8 := Lib.hid hS.1
        refine wpAnyL_ready (rs := [11]) (by kernel_rfl) (by simp) ?_
        refine AllReadyL.cons rfl (fun K hK => ?_) AllReadyL.nil
        rw [if_pos (by rfl)]
        simp only [List.getElem_toArray, List.getElem_cons_succ, List.getElem_cons_zero]
        obtain ⟨⟨e0, e1⟩, k0, k1⟩ := blk2 T8.out
        go_wp2_with fail
        refine hK.out _ _ (fun e => absurd rfl e) ?_
        clear hK hS
        refine wpAnyL_done (by kernel_rfl) ?_ _
        have O9 : Hid ((w8.setCell ⟨w1.heap.size, 1, Option.none⟩ (.slice a8 (X.length + 1) c8)).ownsRow (w1.heap.size + 1 + 1) 70 2 (.slice a8 (X.length + 1) c8) (X ++ [(⟨s, nn⟩ : AR)]).length (acells (X ++ [(⟨s, nn⟩ : AR)]))) := by
          rw [List.length_append, acells_snoc]
          exact own_later8 hown8 (fun g _ hg _ => Below.heap_setCell _ _ _ _ (by show g ≠ w1.heap.size; omega))
        have T9 := Lib.hid (Go.heap_setCell_same _ _ 1 _ _ (.slice a8 (X.length + 1) c8) T8.out)
        clear hown8 hgrow8 e0 e1 k0 k1
        have N9 := Lib.hid (heap_n8 (heap_n8 N7.out HF8.out (by omega)) ((Below.refl (w1.heap.size + 1 + 1) w8)) (by omega))
        have N10 : Hid ((w8.setCell ⟨w1.heap.size, 1, Option.none⟩ (.slice a8 (X.length + 1) c8)).heap[w1.heap.size + 1]? = some (.cells #[.string ⟨#[105]⟩, .string ⟨#[106]⟩, .string ⟨#[107]⟩] 9)) := (Below.heap_setCell _ _ _ _ (by show w1.heap.size + 1 ≠ w1.heap.size; omega)).trans N9.out
        have R10 : Hid ((w8.setCell ⟨w1.heap.size, 1, Option.none⟩ (.slice a8 (X.length + 1) c8)).heap[w.heap.size]? = some (.cells #[.int .i64 0, .slice Option.none 0 0] 26)) := (Below.heap_setCell _ _ _ _ (by show w.heap.size ≠ w1.heap.size; omega)).trans (heap_n8 R7.out HF8.out (by omega))
        have HX9 := Lib.hid (HX.out.snoc HS.out HNN.out)
        have hq9 : w1.heap.size + 1 + 1 ≤ (w8.setCell ⟨w1.heap.size, 1, Option.none⟩ (.slice a8 (X.length + 1) c8)).heap.size := by have := HF8.out.size; simp; omega
        go_wp2
        go_roundw
        case rel => exact ⟨k + 1, X ++ [(⟨s, nn⟩ : AR)], (.slice a8 (X.length + 1) c8), by omega, by go_num, HX9.out, O9.out, T9.out, N10.out, R10.out, D8.out, WR8.out, hq9⟩
        case measure => simp [RowKit.intOf]; omega
    · have hltI : ¬ (k : Int) < 3 := by omega
      obtain rfl : k = 3 := by omega
      obtain ⟨⟨y0, y1⟩, _⟩ := blk2 HT.out
      obtain ⟨⟨z0, z1⟩, f0, f1⟩ := blk2 HR.out
      go_wp2
      have g0 := Go.heap_setCell_same _ _ 0 _ _ (.int .i64 cc) HR.out
      have g1 := Go.heap_setCell_same _ _ 1 _ _ (.slice oa X.length oc) g0
      clear z0 z1
      obtain ⟨⟨z0, z1⟩, _⟩ := blk2 g1
      have FZ : Below w.heap.size wr ((wr.setCell ⟨w.heap.size, 0, Option.none⟩ (.int .i64 cc)).setCell ⟨w.heap.size, 1, Option.none⟩ (.slice oa X.length oc)) := ((Below.refl w.heap.size wr).setCell (p := ⟨w.heap.size, 0, Option.none⟩) (Nat.le_refl _) _).setCell (p := ⟨w.heap.size, 1, Option.none⟩) (Nat.le_refl _) _
      refine bodyPost_ret (v := .agg #[.int .i64 cc, .slice oa X.length oc]) (by simp [results, Tryz.results26, go_sem, z0, z1]) rfl ⟨cc, X, .slice oa X.length oc, rfl, ⟨HC.out, HX.out⟩, ?_, HD.out.below8 FZ hbz, HW.out.below8 FZ (Nat.le_refl _)⟩
      exact ownMono8 (by omega) (own_later8 HOw.out fun g _ hg _ => by
        have hne : g ≠ w.heap.size := by omega
        exact (Below.heap_setCell _ _ _ _ hne).trans (Below.heap_setCell _ _ _ _ hne))
end Go.Proofs.YtjdpddcnogdekaaGreat
/-
  The draws of chapter 8: l8Any.
-/
namespace Go.Proofs.YtjdpddcnogdekaaGreat
open Go.RowKit Go.Lib
set_option linter.unusedSimpArgs false
set_option linter.unusedVariables false

theorem fin8 (W : World) (n : Nat) (u v : Value) : Below n W ((W.setCell ⟨n, 0, Option.none⟩ u).setCell ⟨n, 1, Option.none⟩ v) := ((Below.refl n W).setCell (p := ⟨n, 0, Option.none⟩) (Nat.le_refl _) _).setCell (p := ⟨n, 1, Option.none⟩) (Nat.le_refl _) _
/-- What l8Any may draw. -/
def Any8 (c : Int) (ts : List AR) : Prop := (-9223372036854775808 ≤ c ∧ c ≤ 9223372036854775807) ∧ ts.length ≤ 4 ∧ ∀ t ∈ ts, t.s.size ≤ 3 ∧ -9223372036854775808 ≤ t.n ∧ t.n ≤ 9223372036854775807
theorem nm3_size {j : Nat} {s : ByteArray} (h : nm3[j]? = some s) : s.size ≤ 3 := by
  have h3 : j < 3 := (List.getElem?_eq_some_iff.1 h).1
  have : j = 0 ∨ j = 1 ∨ j = 2 := by omega
  rcases this with rfl | rfl | rfl <;> (simp only [nm3, List.getElem?_cons_zero, List.getElem?_cons_succ, Option.some.injEq] at h; subst h; decide)
theorem Small8.any {c c' : Int} {ts : List AR} (h : Small8 c ts) (hc : -9223372036854775808 ≤ c' ∧ c' ≤ 9223372036854775807) : Any8 c' ts :=
  ⟨hc, by have := h.2.2.1; omega, fun t ht => by
    obtain ⟨⟨j, _, h2⟩, h3, h4, _⟩ := h.2.2.2 t ht
    exact ⟨nm3_size h2, by omega, by omega⟩⟩
theorem Small8.any_snoc {c : Int} {ts : List AR} {s : ByteArray} {n : Int} (h : Small8 c ts) (hs : s.size ≤ 3) (hn : 0 ≤ n ∧ n ≤ 100001) : Any8 c (ts ++ [⟨s, n⟩]) := by
  have k := h.any (c' := c) (by have := h.1; omega)
  refine ⟨k.1, by have := h.2.2.1; simp; omega, fun t ht => ?_⟩
  rcases List.mem_append.1 ht with ht | ht
  · exact k.2.2 t ht
  · simp only [List.mem_cons, List.not_mem_nil, or_false] at ht
    subst ht
    exact ⟨hs, by show -9223372036854775808 ≤ n; omega, by show n ≤ 9223372036854775807; omega⟩
theorem cells_w8 {A B : World} {b lb n : Nat} {α : Type} {F : α → Value} {q : α → Prop} (h : ∀ j, j < n → ∃ z, A.cell? ⟨lb, j, none⟩ = some (F z) ∧ q z) (hw : Wr b A B) (hne : lb ≠ b) : ∀ j, j < n → ∃ z, B.cell? ⟨lb, j, none⟩ = some (F z) ∧ q z := fun j hj => by
  obtain ⟨z, hz, hq⟩ := h j hj
  exact ⟨z, (World.cell?_of_block (a := ⟨lb, j, none⟩) (hw.block lb (lt_of_cellA hz) hne)).trans hz, hq⟩
set_option maxHeartbeats 4000000 in
set_option maxRecDepth 100000 in
theorem l8Any_is (B : Nat) (a : Option Addr) (len cap b : Nat) (w : World) (d : Dw B a len cap b w) :
    Calls Tryz.prog 70 #[.pointer (some ⟨b, 0, none⟩)] w (DrawnT8 Any8 B a len cap b w) := by
  obtain ⟨i0, hi0, hz0, hz1, hz2⟩ := info_parts infoIT8
  have hbz : b < w.heap.size := d.cur.lt
  have bz := alloc_below w (.cells #[.int .i64 0, .slice Option.none 0 0] 26)
  have D0 := Lib.hid (d.later bz)
  have R0 := Lib.hid (heap_last w (.cells #[.int .i64 0, .slice Option.none 0 0] 26))
  have WR0 : Hid (Wr b w (w.alloc (.cells #[.int .i64 0, .slice Option.none 0 0] 26))) := Wr.of_below bz
  clear d bz
  go_enter Tryz.func70, Tryz.ntmps70
  go_wp2_with fail
  refine (l8Draw_is B a len cap b _ D0.out).mono ?_
  rintro e w1 ⟨cc, X, v, rfl, hp, own1, d1, wr1⟩
  obtain ⟨oa, oc, rfl⟩ := ownShape own1
  have hs1 : w.heap.size + 1 ≤ w1.heap.size := by have := wr1.size; rwa [World.size_alloc] at this
  have bs := alloc_below w1 (.cells #[.int .i64 cc, .slice oa X.length oc] 26)
  have HP := Lib.hid hp
  have O1 := Lib.hid (ownMono8 (B' := w.heap.size + 1) (by simp) own1)
  have O2 := Lib.hid (own_below8 O1.out bs)
  have R2 := Lib.hid (heap_b8 (heap_w8 R0.out wr1 (by omega)) bs)
  have T2 := Lib.hid (heap_last w1 (.cells #[.int .i64 cc, .slice oa X.length oc] 26))
  have D2 := Lib.hid (d1.later bs)
  have WR2 := Lib.hid ((WR0.out.trans wr1).trans (.of_below bs))
  have HXN : Hid (X.length ≤ 8000000) := show _ ≤ _ by have := hp.2.2.1; omega
  have HV1 := Lib.hid O1.out.lt
  clear d1 wr1 R0 D0 WR0 own1 hp bs O1
  go_wp2_with fail
  refine (l1Below_is B a len cap b 10 _ D2.out (by omega)).mono ?_
  rintro e w3 ⟨y, rfl, ⟨y0, y1⟩, d3, wr3⟩
  have hs3 : w1.heap.size + 1 ≤ w3.heap.size := by have := wr3.size; rwa [World.size_alloc] at this
  have O3 := Lib.hid (own_w8 O2.out wr3 (by omega))
  have R3 := Lib.hid (heap_w8 R2.out wr3 (by omega))
  have T3 := Lib.hid (heap_w8 T2.out wr3 (by omega))
  have D3 := Lib.hid d3
  have WR3 := Lib.hid (WR2.out.trans wr3)
  clear d3 wr3 O2 R2 T2 D2 WR2
  by_cases hy0 : y = 0
  · subst hy0
    clear y0 y1
    go_wp2_with fail
    have ba := alloc_below w3 (.cells #[.int .i64 100000, .int .i64 100001, .int .i64 (-100000), .int .i64 (-100001), .int .i64 9223372036854775807] 3)
    have hbw3 : b < w3.heap.size := D3.out.cur.lt
    refine (l1Int_is B a len cap b w3.heap.size 5 5 (fun z => -9223372036854775808 ≤ z ∧ z ≤ 9223372036854775807) _ (D3.out.later ba) (by omega) (by omega) (by omega) (fun j hj => ints_cell w3 [100000, 100001, -100000, -100001, 9223372036854775807] _ (by decide) _ rfl j hj)).mono ?_
    rintro e w4 ⟨nn, rfl, hn, d4, wr4⟩
    have wr34 : Wr b w3 w4 := (Wr.of_below ba).trans wr4
    have HNN := Lib.hid hn
    have O4 := Lib.hid (own_w8 O3.out wr34 (by omega))
    have R4 := Lib.hid (heap_w8 R3.out wr34 (by omega))
    have t4 := heap_w8 T3.out wr34 (by omega)
    have T4 := Lib.hid t4
    have D4 := Lib.hid d4
    have WR4 := Lib.hid (WR3.out.trans wr34)
    obtain ⟨⟨e0, e1⟩, k0, k1⟩ := blk2 t4
    have bS : Below w1.heap.size w4 (w4.setCell ⟨w1.heap.size, 0, Option.none⟩ (.int .i64 nn)) := (Below.refl _ w4).setCell (p := ⟨w1.heap.size, 0, Option.none⟩) (Nat.le_refl _) _
    have T5 := Lib.hid (Go.heap_setCell_same _ _ 0 _ _ (.int .i64 nn) t4)
    have R5 := Lib.hid (heap_n8 R4.out bS (by omega))
    have D5 := Lib.hid (D4.out.below8 bS (by omega))
    have WR5 := Lib.hid (WR4.out.below8 bS (by omega))
    have O5 : Hid ((w4.setCell ⟨w1.heap.size, 0, Option.none⟩ (.int .i64 nn)).ownsRow (w.heap.size + 1) 70 2 (.slice oa X.length oc) X.length (acells X)) := own_g8 (r := some w1.heap.size) O4.out (grown_set8 (World.grownBy.refl _ _) _ _) (fun k h1 h2 => by have := HV1.out k h1; injection h2 with h2; omega)
    clear wr34 hn t4 d4 wr4 ba bS O3 R3 T3 D3 WR3
    obtain ⟨⟨y0, y1⟩, _⟩ := blk2 T5.out
    obtain ⟨⟨z0, z1⟩, f0, f1⟩ := blk2 R5.out
    go_wp2
    have g0 := Go.heap_setCell_same _ _ 0 _ _ (.int .i64 nn) R5.out
    have g1 := Go.heap_setCell_same _ _ 1 _ _ (.slice oa X.length oc) g0
    clear z0 z1
    obtain ⟨⟨z0, z1⟩, _⟩ := blk2 g1
    refine bodyPost_ret (v := .agg #[.int .i64 nn, .slice oa X.length oc]) (by simp [results, Tryz.results70, go_sem, z0, z1]) rfl ⟨nn, X, .slice oa X.length oc, rfl, HP.out.any HNN.out, ?_, D5.out.below8 (fin8 _ _ _ _) hbz, WR5.out.below8 (fin8 _ _ _ _) (Nat.le_refl _)⟩
    exact ownMono8 (B := w.heap.size + 1) (by omega) (own_later8 O5.out fun g _ hg _ => by
      have hne : g ≠ w.heap.size := by omega
      exact (Below.heap_setCell _ _ _ _ hne).trans (Below.heap_setCell _ _ _ _ hne))
  · have hy0b : (y == 0) = false := by simp [hy0]
    by_cases hy1 : y = 1
    · subst hy1
      clear y0 y1 hy0
      go_wp2_with fail
      have bd : Below w3.heap.size w3 w3.drew := (Below.refl _ w3).drew
      obtain ⟨w4, Wd⟩ : ∃ w4, Hid (w4 = w3.drew) := ⟨_, rfl⟩
      have hS : w4.heap[w1.heap.size]? = some (.cells #[.int .i64 cc, .slice oa X.length oc] 26) ∧ True := by rw [Wd.out]; exact ⟨heap_b8 T3.out bd, trivial⟩
      refine wp_region_last (fun w' => w'.heap[w1.heap.size]? = some (.cells #[.int .i64 cc, .slice oa X.length oc] 26) ∧ True) 12 (by kernel_rfl) ?_
      rw [← Wd.out] at bd ⊢
      have O4 := Lib.hid (own_below8 O3.out bd)
      have R4 := Lib.hid (heap_b8 R3.out bd)
      have D4 := Lib.hid (D3.out.later bd)
      have W4 := Lib.hid (WR3.out.trans (.of_below bd))
      have HV4 := Lib.hid O4.out.lt
      have hs4 : w1.heap.size + 1 ≤ w4.heap.size := Nat.le_trans hs3 bd.size
      have hbw4 : b < w4.heap.size := D4.out.cur.lt
      clear bd Wd O3 R3 T3 D3 WR3
      refine wpAnyL_take (i := 0) (v := .pointer (some ⟨w1.heap.size, 1, Option.none⟩)) rfl (by kernel_rfl) (by kernel_rfl) (by kernel_rfl) (by kernel_rfl) (fun _ _ _ h => h) (Or.inl ⟨by rfl, ?yaa0⟩) hS ?_
      case yaa0 => intro w hSw; go_simp
      simp only [Act.put, List.getElem_toArray, List.getElem_cons_succ, List.getElem_cons_zero, List.setIfInBounds_toArray, List.set_cons_zero, List.set_cons_succ]
      refine wpAnyL_take (i := 1) (v := .slice oa X.length oc) rfl (by kernel_rfl) (by kernel_rfl) (by kernel_rfl) (by kernel_rfl) (fun _ _ _ h => h) (Or.inl ⟨by rfl, ?yaa1⟩) hS ?_
      case yaa1 => intro w hSw; obtain ⟨⟨j0, j1⟩, _⟩ := blk2 hSw.1; go_simp
      simp only [Act.put, List.getElem_toArray, List.getElem_cons_succ, List.getElem_cons_zero, List.setIfInBounds_toArray, List.set_cons_zero, List.set_cons_succ]
      refine wpAnyL_take (i := 2) (v := .pointer (some ⟨b, 0, Option.none⟩)) rfl (by kernel_rfl) (by kernel_rfl) (by kernel_rfl) (by kernel_rfl) (fun _ _ _ h => h) (Or.inl ⟨by rfl, ?yaa2⟩) hS ?_
      case yaa2 => intro w hSw; go_simp
      simp only [Act.put, List.getElem_toArray, List.getElem_cons_succ, List.getElem_cons_zero, List.setIfInBounds_toArray, List.set_cons_zero, List.set_cons_succ]
      refine wpAnyL_take (i := 5) (v := .pointer (some ⟨b, 0, Option.none⟩)) rfl (by kernel_rfl) (by kernel_rfl) (by kernel_rfl) (by kernel_rfl) (fun _ _ _ h => h) (Or.inl ⟨by rfl, ?yaa5⟩) hS ?_
      case yaa5 => intro w hSw; go_simp
      simp only [Act.put, List.getElem_toArray, List.getElem_cons_succ, List.getElem_cons_zero, List.setIfInBounds_toArray, List.set_cons_zero, List.set_cons_succ]
      refine wpAnyL_ready (rs := [3, 6]) (by kernel_rfl) (by simp) ?_
      refine AllReadyL.cons rfl (fun K hK => ?_) (AllReadyL.cons rfl (fun K hK => ?_) AllReadyL.nil)
      ·
        rw [if_pos (by rfl)]
        simp only [List.getElem_toArray, List.getElem_cons_succ, List.getElem_cons_zero]
        go_wp2_with fail
        have ba := alloc_below w4 (.cells #[.string ⟨#[97]⟩, .string ⟨#[122]⟩, .string ⟨#[]⟩, .string ⟨#[102, 111, 114]⟩] 9)
        have hS2 := And.intro (heap_b8 hS.1 ba) trivial
        refine hK.out _ _ (fun _ => hS2) ?_
        clear hS hK
        have hS := hS2
        clear hS2
        have L3v1 : Hid (∀ j, j < 4 → ∃ z, (w4.alloc (.cells #[.string ⟨#[97]⟩, .string ⟨#[122]⟩, .string ⟨#[]⟩, .string ⟨#[102, 111, 114]⟩] 9)).cell? ⟨w4.heap.size, j, none⟩ = some (Value.string z) ∧ z.size ≤ 3) := show ∀ j, _ → _ from fun j hj => strs_cell w4 [⟨#[97]⟩, ⟨#[122]⟩, ⟨#[]⟩, ⟨#[102, 111, 114]⟩] (fun z => z.size ≤ 3) (by decide) _ rfl j hj
        obtain ⟨v1, Wv1⟩ : ∃ wz, Hid (wz = w4.alloc (.cells #[.string ⟨#[97]⟩, .string ⟨#[122]⟩, .string ⟨#[]⟩, .string ⟨#[102, 111, 114]⟩] 9)) := ⟨_, rfl⟩
        rw [← Wv1.out] at hS ba L3v1 ⊢
        have wrv1 : Wr b w4 v1 := .of_below ba
        have Dv1 := Lib.hid (D4.out.later ba)
        clear ba Wv1
        have Uv1 := Lib.hid wrv1
        have hbv1 : b < v1.heap.size := Dv1.out.cur.lt
        have hzv1 : w4.heap.size ≤ v1.heap.size := wrv1.size
        clear wrv1
        refine wpAnyL_ready (rs := [4, 6]) (by kernel_rfl) (by simp) ?_
        refine AllReadyL.cons rfl (fun K hK => ?_) (AllReadyL.cons rfl (fun K hK => ?_) AllReadyL.nil)
        ·
          rw [if_pos (by rfl)]
          simp only [List.getElem_toArray, List.getElem_cons_succ, List.getElem_cons_zero]
          go_wp2_with fail
          refine (l1Str_is B a len cap b w4.heap.size 4 4 (fun z => z.size ≤ 3) _ Dv1.out (by omega) (by omega) (by omega) L3v1.out).mono ?_
          rintro e v2 ⟨ss, rfl, hss, dv2, wrv2⟩
          have HSS := Lib.hid hss
          clear hss
          have Dv2 := Lib.hid dv2
          clear dv2
          go_wp2_with fail
          have hS2 := And.intro (heap_w8 hS.1 wrv2 (by omega)) trivial
          refine hK.out _ _ (fun _ => hS2) ?_
          clear hS hK
          have hS := hS2
          clear hS2
          have Uv2 := Lib.hid (Uv1.out.trans wrv2)
          have hbv2 : b < v2.heap.size := Dv2.out.cur.lt
          have hzv2 : v1.heap.size ≤ v2.heap.size := wrv2.size
          clear wrv2
          refine wpAnyL_ready (rs := [6]) (by kernel_rfl) (by simp) ?_
          refine AllReadyL.cons rfl (fun K hK => ?_) AllReadyL.nil
          rw [if_pos (by rfl)]
          simp only [List.getElem_toArray, List.getElem_cons_succ, List.getElem_cons_zero]
          go_wp2_with fail
          have ba := alloc_below v2 (.cells #[.int .i64 0, .int .i64 1, .int .i64 100001] 3)
          have hS2 := And.intro (heap_b8 hS.1 ba) trivial
          refine hK.out _ _ (fun _ => hS2) ?_
          clear hS hK
          have hS := hS2
          clear hS2
          have L6v3 : Hid (∀ j, j < 3 → ∃ z, (v2.alloc (.cells #[.int .i64 0, .int .i64 1, .int .i64 100001] 3)).cell? ⟨v2.heap.size, j, none⟩ = some (.int .i64 z) ∧ 0 ≤ z ∧ z ≤ 100001) := show ∀ j, _ → _ from fun j hj => ints_cell v2 [0, 1, 100001] (fun z => 0 ≤ z ∧ z ≤ 100001) (by decide) _ rfl j hj
          obtain ⟨v3, Wv3⟩ : ∃ wz, Hid (wz = v2.alloc (.cells #[.int .i64 0, .int .i64 1, .int .i64 100001] 3)) := ⟨_, rfl⟩
          rw [← Wv3.out] at hS ba L6v3 ⊢
          have wrv3 : Wr b v2 v3 := .of_below ba
          have Dv3 := Lib.hid (Dv2.out.later ba)
          clear ba Wv3
          have Uv3 := Lib.hid (Uv2.out.trans wrv3)
          have hbv3 : b < v3.heap.size := Dv3.out.cur.lt
          have hzv3 : v2.heap.size ≤ v3.heap.size := wrv3.size
          clear wrv3
          refine wpAnyL_ready (rs := [7]) (by kernel_rfl) (by simp) ?_
          refine AllReadyL.cons rfl (fun K hK => ?_) AllReadyL.nil
          rw [if_pos (by rfl)]
          simp only [List.getElem_toArray, List.getElem_cons_succ, List.getElem_cons_zero]
          go_wp2_with fail
          refine (l1Int_is B a len cap b v2.heap.size 3 3 (fun z => 0 ≤ z ∧ z ≤ 100001) _ Dv3.out (by omega) (by omega) (by omega) L6v3.out).mono ?_
          rintro e v4 ⟨nn, rfl, hnn, dv4, wrv4⟩
          have HNN := Lib.hid hnn
          clear hnn
          have Dv4 := Lib.hid dv4
          clear dv4
          go_wp2_with fail
          have hS2 := And.intro (heap_w8 hS.1 wrv4 (by omega)) trivial
          refine hK.out _ _ (fun _ => hS2) ?_
          clear hS hK
          have hS := hS2
          clear hS2
          have Uv4 := Lib.hid (Uv3.out.trans wrv4)
          have hbv4 : b < v4.heap.size := Dv4.out.cur.lt
          have hzv4 : v3.heap.size ≤ v4.heap.size := wrv4.size
          have L6v3x := Lib.hid (cells_w8 L6v3.out wrv4 (by omega))
          clear wrv4
          have O5 := Lib.hid (own_w8 O4.out Uv4.out (by omega))
          have R5 := Lib.hid (heap_w8 R4.out Uv4.out (by omega))
          have W5 := Lib.hid (W4.out.trans Uv4.out)
          have HV := Lib.hid O5.out.lt
          have hq5 : w.heap.size + 1 ≤ v4.heap.size := by have := Uv4.out.size; omega
          refine wpAnyL_take (i := 8) (v := .agg #[.string ss, .int .i64 nn]) rfl (by kernel_rfl) (by kernel_rfl) (by kernel_rfl) (by kernel_rfl) (fun _ _ _ h => h) (Or.inl ⟨by rfl, ?yab48⟩) hS ?_
          case yab48 => intro w hSw; go_simp
          simp only [Act.put, List.getElem_toArray, List.getElem_cons_succ, List.getElem_cons_zero, List.setIfInBounds_toArray, List.set_cons_zero, List.set_cons_succ]
          have NE : Hid (∀ k, (Value.slice oa X.length oc).ownBlock = some k → k < w1.heap.size) := show ∀ k, _ → _ from fun k h => (HV1.out k h).2
          have HS0 := Lib.hid hS
          refine wpAnyL_ready (rs := [9]) (by kernel_rfl) (by simp) ?_
          refine AllReadyL.cons rfl (fun K hK => ?_) AllReadyL.nil
          rw [if_pos (by rfl)]
          simp only [List.getElem_toArray, List.getElem_cons_succ, List.getElem_cons_zero]
          go_wp2_with fail
          have hS2 := And.intro (heap_b8 HS0.out.1 (alloc_below v4 (.cells #[.string ss, .int .i64 nn] 70))) trivial
          refine hK.out _ _ (fun _ => hS2) ?_
          clear hS hK
          have hS := hS2
          clear hS2
          refine wpAnyL_ready (rs := [10]) (by kernel_rfl) (by simp) ?_
          refine AllReadyL.cons rfl (fun K hK => ?_) AllReadyL.nil
          rw [if_pos (by rfl)]
          simp only [List.getElem_toArray, List.getElem_cons_succ, List.getElem_cons_zero]
          refine wp_append_own _ _ _ 24 (by rfl) (w.heap.size + 1) 70 i0 _ 2 24 Tryz.underlying24 hi0 hz0 hz1 hz2 rfl (by decide) _ _ _ (by rfl) (O5.out.alloc _) ⟨v4.heap.size, 0, Option.none⟩ 1 1 [.string ss, .int .i64 nn] (by rfl) (by rfl) (new2T _ _ _ _) (two8 _ _) (by have := HXN.out; unfold maxLen; omega) (by have := HXN.out; omega) (by simp; omega) ?_
          intro v' w8 hown8 hgrow8 _
          obtain ⟨a8, c8, rfl⟩ := ownShape hown8
          have F8 : Below (w.heap.size + 1) v4 w8 := ((Below.refl _ v4).alloc hq5 _).grown hgrow8 (by simp; omega) (fun k hk => (HV.out k hk).1)
          have D8 := Lib.hid (((Dv4.out.below8 F8 (by omega))).below8 ((Below.refl w1.heap.size w8).setCell (p := ⟨w1.heap.size, 1, Option.none⟩) (Nat.le_refl _) (.slice a8 (X.length + 1) c8)) (by omega))
          have WR8 := Lib.hid ((W5.out.below8 F8 (by omega)).below8 ((Below.refl w1.heap.size w8).setCell (p := ⟨w1.heap.size, 1, Option.none⟩) (Nat.le_refl _) (.slice a8 (X.length + 1) c8)) (by omega))
          have R9 := Lib.hid (heap_n8 R5.out F8 (by omega))
          clear F8
          have HV8 := Lib.hid hown8.lt
          have hS2 := And.intro (heap_g8 (heap_b8 HS0.out.1 (alloc_below v4 _)) hgrow8 (fun e => by have := NE.out _ e; omega)) trivial
          refine hK.out _ _ (fun _ => hS2) ?_
          clear hS hK
          have hS := hS2
          clear hS2
          simp only [Act.put, List.getElem_toArray, List.getElem_cons_succ, List.getElem_cons_zero, List.setIfInBounds_toArray, List.set_cons_zero, List.set_cons_succ]
          refine wpAnyL_take (i := 11) (v := .pointer (some ⟨w1.heap.size, 1, Option.none⟩)) rfl (by kernel_rfl) (by kernel_rfl) (by kernel_rfl) (by kernel_rfl) (fun _ _ _ h => h) (Or.inl ⟨by rfl, ?yab411⟩) hS ?_
          case yab411 => intro w hSw; go_simp
          simp only [Act.put, List.getElem_toArray, List.getElem_cons_succ, List.getElem_cons_zero, List.setIfInBounds_toArray, List.set_cons_zero, List.set_cons_succ]
          have T8 := Lib.hid hS.1
          refine wpAnyL_ready (rs := [12]) (by kernel_rfl) (by simp) ?_
          refine AllReadyL.cons rfl (fun K hK => ?_) AllReadyL.nil
          rw [if_pos (by rfl)]
          simp only [List.getElem_toArray, List.getElem_cons_succ, List.getElem_cons_zero]
          obtain ⟨⟨e0, e1⟩, k0, k1⟩ := blk2 T8.out
          go_wp2_with fail
          refine hK.out _ _ (fun e => absurd rfl e) ?_
          clear hK hS
          refine wpAnyL_done (by kernel_rfl) ?_ _
          have O9 : Hid ((w8.setCell ⟨w1.heap.size, 1, Option.none⟩ (.slice a8 (X.length + 1) c8)).ownsRow (w.heap.size + 1) 70 2 (.slice a8 (X.length + 1) c8) (X ++ [(⟨ss, nn⟩ : AR)]).length (acells (X ++ [(⟨ss, nn⟩ : AR)]))) := by
            rw [List.length_append, acells_snoc]
            exact own_later8 hown8 (fun g c hg hh => Below.heap_setCell _ _ _ _ (ne_types8 hh T8.out))
          have T9 := Lib.hid (Go.heap_setCell_same _ _ 1 _ _ (.slice a8 (X.length + 1) c8) T8.out)
          clear hown8 hgrow8 e0 e1 k0 k1
          have R10 : Hid ((w8.setCell ⟨w1.heap.size, 1, Option.none⟩ (.slice a8 (X.length + 1) c8)).heap[w.heap.size]? = some (.cells #[.int .i64 0, .slice Option.none 0 0] 26)) := (Below.heap_setCell _ _ _ _ (by show w.heap.size ≠ w1.heap.size; omega)).trans R9.out
          have HP9 := Lib.hid (HP.out.any_snoc HSS.out HNN.out)
          have O10 : Hid ((w8.setCell ⟨w1.heap.size, 1, Option.none⟩ (.slice a8 (X.length + 1) c8)).ownsRow (w.heap.size + 1) 70 2 (.slice a8 (X.length + 1) c8) (X ++ [(⟨ss, nn⟩ : AR)]).length (acells (X ++ [(⟨ss, nn⟩ : AR)]))) := O9.out
          obtain ⟨⟨y0, y1⟩, _⟩ := blk2 T9.out
          obtain ⟨⟨z0, z1⟩, f0, f1⟩ := blk2 R10.out
          go_wp2
          have g0 := Go.heap_setCell_same _ _ 0 _ _ (.int .i64 cc) R10.out
          have g1 := Go.heap_setCell_same _ _ 1 _ _ (.slice a8 (X.length + 1) c8) g0
          clear z0 z1
          obtain ⟨⟨z0, z1⟩, _⟩ := blk2 g1
          refine bodyPost_ret (v := .agg #[.int .i64 cc, .slice a8 (X.length + 1) c8]) (by simp [results, Tryz.results70, go_sem, z0, z1]) rfl ⟨cc, X ++ [(⟨ss, nn⟩ : AR)], .slice a8 (X.length + 1) c8, rfl, HP9.out, ?_, D8.out.below8 (fin8 _ _ _ _) hbz, WR8.out.below8 (fin8 _ _ _ _) (Nat.le_refl _)⟩
          exact ownMono8 (B := w.heap.size + 1) (by omega) (own_later8 O10.out fun g _ hg _ => by
            have hne : g ≠ w.heap.size := by omega
            exact (Below.heap_setCell _ _ _ _ hne).trans (Below.heap_setCell _ _ _ _ hne))
        ·
          rw [if_pos (by rfl)]
          simp only [List.getElem_toArray, List.getElem_cons_succ, List.getElem_cons_zero]
          go_wp2_with fail
          have ba := alloc_below v1 (.cells #[.int .i64 0, .int .i64 1, .int .i64 100001] 3)
          have hS2 := And.intro (heap_b8 hS.1 ba) trivial
          refine hK.out _ _ (fun _ => hS2) ?_
          clear hS hK
          have hS := hS2
          clear hS2
          have L6v5 : Hid (∀ j, j < 3 → ∃ z, (v1.alloc (.cells #[.int .i64 0, .int .i64 1, .int .i64 100001] 3)).cell? ⟨v1.heap.size, j, none⟩ = some (.int .i64 z) ∧ 0 ≤ z ∧ z ≤ 100001) := show ∀ j, _ → _ from fun j hj => ints_cell v1 [0, 1, 100001] (fun z => 0 ≤ z ∧ z ≤ 100001) (by decide) _ rfl j hj
          obtain ⟨v5, Wv5⟩ : ∃ wz, Hid (wz = v1.alloc (.cells #[.int .i64 0, .int .i64 1, .int .i64 100001] 3)) := ⟨_, rfl⟩
          rw [← Wv5.out] at hS ba L6v5 ⊢
          have wrv5 : Wr b v1 v5 := .of_below ba
          have Dv5 := Lib.hid (Dv1.out.later ba)
          clear ba Wv5
          have Uv5 := Lib.hid (Uv1.out.trans wrv5)
          have hbv5 : b < v5.heap.size := Dv5.out.cur.lt
          have hzv5 : v1.heap.size ≤ v5.heap.size := wrv5.size
          have L3v1x := Lib.hid (cells_w8 L3v1.out wrv5 (by omega))
          clear wrv5
          refine wpAnyL_ready (rs := [4]) (by kernel_rfl) (by simp) ?_
          refine AllReadyL.cons rfl (fun K hK => ?_) AllReadyL.nil
          rw [if_pos (by rfl)]
          simp only [List.getElem_toArray, List.getElem_cons_succ, List.getElem_cons_zero]
          go_wp2_with fail
          refine (l1Str_is B a len cap b w4.heap.size 4 4 (fun z => z.size ≤ 3) _ Dv5.out (by omega) (by omega) (by omega) L3v1x.out).mono ?_
          rintro e v6 ⟨ss, rfl, hss, dv6, wrv6⟩
          have HSS := Lib.hid hss
          clear hss
          have Dv6 := Lib.hid dv6
          clear dv6
          go_wp2_with fail
          have hS2 := And.intro (heap_w8 hS.1 wrv6 (by omega)) trivial
          refine hK.out _ _ (fun _ => hS2) ?_
          clear hS hK
          have hS := hS2
          clear hS2
          have Uv6 := Lib.hid (Uv5.out.trans wrv6)
          have hbv6 : b < v6.heap.size := Dv6.out.cur.lt
          have hzv6 : v5.heap.size ≤ v6.heap.size := wrv6.size
          have L6v5x := Lib.hid (cells_w8 L6v5.out wrv6 (by omega))
          clear wrv6
          refine wpAnyL_ready (rs := [7]) (by kernel_rfl) (by simp) ?_
          refine AllReadyL.cons rfl (fun K hK => ?_) AllReadyL.nil
          rw [if_pos (by rfl)]
          simp only [List.getElem_toArray, List.getElem_cons_succ, List.getElem_cons_zero]
          go_wp2_with fail
          refine (l1Int_is B a len cap b v1.heap.size 3 3 (fun z => 0 ≤ z ∧ z ≤ 100001) _ Dv6.out (by omega) (by omega) (by omega) L6v5x.out).mono ?_
          rintro e v7 ⟨nn, rfl, hnn, dv7, wrv7⟩
          have HNN := Lib.hid hnn
          clear hnn
          have Dv7 := Lib.hid dv7
          clear dv7
          go_wp2_with fail
          have hS2 := And.intro (heap_w8 hS.1 wrv7 (by omega)) trivial
          refine hK.out _ _ (fun _ => hS2) ?_
          clear hS hK
          have hS := hS2
          clear hS2
          have Uv7 := Lib.hid (Uv6.out.trans wrv7)
          have hbv7 : b < v7.heap.size := Dv7.out.cur.lt
          have hzv7 : v6.heap.size ≤ v7.heap.size := wrv7.size
          have L6v5xx := Lib.hid (cells_w8 L6v5x.out wrv7 (by omega))
          clear wrv7
          have O5 := Lib.hid (own_w8 O4.out Uv7.out (by omega))
          have R5 := Lib.hid (heap_w8 R4.out Uv7.out (by omega))
          have W5 := Lib.hid (W4.out.trans Uv7.out)
          have HV := Lib.hid O5.out.lt
          have hq5 : w.heap.size + 1 ≤ v7.heap.size := by have := Uv7.out.size; omega
          refine wpAnyL_take (i := 8) (v := .agg #[.string ss, .int .i64 nn]) rfl (by kernel_rfl) (by kernel_rfl) (by kernel_rfl) (by kernel_rfl) (fun _ _ _ h => h) (Or.inl ⟨by rfl, ?yab78⟩) hS ?_
          case yab78 => intro w hSw; go_simp
          simp only [Act.put, List.getElem_toArray, List.getElem_cons_succ, List.getElem_cons_zero, List.setIfInBounds_toArray, List.set_cons_zero, List.set_cons_succ]
          have NE : Hid (∀ k, (Value.slice oa X.length oc).ownBlock = some k → k < w1.heap.size) := show ∀ k, _ → _ from fun k h => (HV1.out k h).2
          have HS0 := Lib.hid hS
          refine wpAnyL_ready (rs := [9]) (by kernel_rfl) (by simp) ?_
          refine AllReadyL.cons rfl (fun K hK => ?_) AllReadyL.nil
          rw [if_pos (by rfl)]
          simp only [List.getElem_toArray, List.getElem_cons_succ, List.getElem_cons_zero]
          go_wp2_with fail
          have hS2 := And.intro (heap_b8 HS0.out.1 (alloc_below v7 (.cells #[.string ss, .int .i64 nn] 70))) trivial
          refine hK.out _ _ (fun _ => hS2) ?_
          clear hS hK
          have hS := hS2
          clear hS2
          refine wpAnyL_ready (rs := [10]) (by kernel_rfl) (by simp) ?_
          refine AllReadyL.cons rfl (fun K hK => ?_) AllReadyL.nil
          rw [if_pos (by rfl)]
          simp only [List.getElem_toArray, List.getElem_cons_succ, List.getElem_cons_zero]
          refine wp_append_own _ _ _ 24 (by rfl) (w.heap.size + 1) 70 i0 _ 2 24 Tryz.underlying24 hi0 hz0 hz1 hz2 rfl (by decide) _ _ _ (by rfl) (O5.out.alloc _) ⟨v7.heap.size, 0, Option.none⟩ 1 1 [.string ss, .int .i64 nn] (by rfl) (by rfl) (new2T _ _ _ _) (two8 _ _) (by have := HXN.out; unfold maxLen; omega) (by have := HXN.out; omega) (by simp; omega) ?_
          intro v' w8 hown8 hgrow8 _
          obtain ⟨a8, c8, rfl⟩ := ownShape hown8
          have F8 : Below (w.heap.size + 1) v7 w8 := ((Below.refl _ v7).alloc hq5 _).grown hgrow8 (by simp; omega) (fun k hk => (HV.out k hk).1)
          have D8 := Lib.hid (((Dv7.out.below8 F8 (by omega))).below8 ((Below.refl w1.heap.size w8).setCell (p := ⟨w1.heap.size, 1, Option.none⟩) (Nat.le_refl _) (.slice a8 (X.length + 1) c8)) (by omega))
          have WR8 := Lib.hid ((W5.out.below8 F8 (by omega)).below8 ((Below.refl w1.heap.size w8).setCell (p := ⟨w1.heap.size, 1, Option.none⟩) (Nat.le_refl _) (.slice a8 (X.length + 1) c8)) (by omega))
          have R9 := Lib.hid (heap_n8 R5.out F8 (by omega))
          clear F8
          have HV8 := Lib.hid hown8.lt
          have hS2 := And.intro (heap_g8 (heap_b8 HS0.out.1 (alloc_below v7 _)) hgrow8 (fun e => by have := NE.out _ e; omega)) trivial
          refine hK.out _ _ (fun _ => hS2) ?_
          clear hS hK
          have hS := hS2
          clear hS2
          simp only [Act.put, List.getElem_toArray, List.getElem_cons_succ, List.getElem_cons_zero, List.setIfInBounds_toArray, List.set_cons_zero, List.set_cons_succ]
          refine wpAnyL_take (i := 11) (v := .pointer (some ⟨w1.heap.size, 1, Option.none⟩)) rfl (by kernel_rfl) (by kernel_rfl) (by kernel_rfl) (by kernel_rfl) (fun _ _ _ h => h) (Or.inl ⟨by rfl, ?yab711⟩) hS ?_
          case yab711 => intro w hSw; go_simp
          simp only [Act.put, List.getElem_toArray, List.getElem_cons_succ, List.getElem_cons_zero, List.setIfInBounds_toArray, List.set_cons_zero, List.set_cons_succ]
          have T8 := Lib.hid hS.1
          refine wpAnyL_ready (rs := [12]) (by kernel_rfl) (by simp) ?_
          refine AllReadyL.cons rfl (fun K hK => ?_) AllReadyL.nil
          rw [if_pos (by rfl)]
          simp only [List.getElem_toArray, List.getElem_cons_succ, List.getElem_cons_zero]
          obtain ⟨⟨e0, e1⟩, k0, k1⟩ := blk2 T8.out
          go_wp2_with fail
          refine hK.out _ _ (fun e => absurd rfl e) ?_
          clear hK hS
          refine wpAnyL_done (by kernel_rfl) ?_ _
          have O9 : Hid ((w8.setCell ⟨w1.heap.size, 1, Option.none⟩ (.slice a8 (X.length + 1) c8)).ownsRow (w.heap.size + 1) 70 2 (.slice a8 (X.length + 1) c8) (X ++ [(⟨ss, nn⟩ : AR)]).length (acells (X ++ [(⟨ss, nn⟩ : AR)]))) := by
            rw [List.length_append, acells_snoc]
            exact own_later8 hown8 (fun g c hg hh => Below.heap_setCell _ _ _ _ (ne_types8 hh T8.out))
          have T9 := Lib.hid (Go.heap_setCell_same _ _ 1 _ _ (.slice a8 (X.length + 1) c8) T8.out)
          clear hown8 hgrow8 e0 e1 k0 k1
          have R10 : Hid ((w8.setCell ⟨w1.heap.size, 1, Option.none⟩ (.slice a8 (X.length + 1) c8)).heap[w.heap.size]? = some (.cells #[.int .i64 0, .slice Option.none 0 0] 26)) := (Below.heap_setCell _ _ _ _ (by show w.heap.size ≠ w1.heap.size; omega)).trans R9.out
          have HP9 := Lib.hid (HP.out.any_snoc HSS.out HNN.out)
          have O10 : Hid ((w8.setCell ⟨w1.heap.size, 1, Option.none⟩ (.slice a8 (X.length + 1) c8)).ownsRow (w.heap.size + 1) 70 2 (.slice a8 (X.length + 1) c8) (X ++ [(⟨ss, nn⟩ : AR)]).length (acells (X ++ [(⟨ss, nn⟩ : AR)]))) := O9.out
          obtain ⟨⟨y0, y1⟩, _⟩ := blk2 T9.out
          obtain ⟨⟨z0, z1⟩, f0, f1⟩ := blk2 R10.out
          go_wp2
          have g0 := Go.heap_setCell_same _ _ 0 _ _ (.int .i64 cc) R10.out
          have g1 := Go.heap_setCell_same _ _ 1 _ _ (.slice a8 (X.length + 1) c8) g0
          clear z0 z1
          obtain ⟨⟨z0, z1⟩, _⟩ := blk2 g1
          refine bodyPost_ret (v := .agg #[.int .i64 cc, .slice a8 (X.length + 1) c8]) (by simp [results, Tryz.results70, go_sem, z0, z1]) rfl ⟨cc, X ++ [(⟨ss, nn⟩ : AR)], .slice a8 (X.length + 1) c8, rfl, HP9.out, ?_, D8.out.below8 (fin8 _ _ _ _) hbz, WR8.out.below8 (fin8 _ _ _ _) (Nat.le_refl _)⟩
          exact ownMono8 (B := w.heap.size + 1) (by omega) (own_later8 O10.out fun g _ hg _ => by
            have hne : g ≠ w.heap.size := by omega
            exact (Below.heap_setCell _ _ _ _ hne).trans (Below.heap_setCell _ _ _ _ hne))
      ·
        rw [if_pos (by rfl)]
        simp only [List.getElem_toArray, List.getElem_cons_succ, List.getElem_cons_zero]
        go_wp2_with fail
        have ba := alloc_below w4 (.cells #[.int .i64 0, .int .i64 1, .int .i64 100001] 3)
        have hS2 := And.intro (heap_b8 hS.1 ba) trivial
        refine hK.out _ _ (fun _ => hS2) ?_
        clear hS hK
        have hS := hS2
        clear hS2
        have L6v8 : Hid (∀ j, j < 3 → ∃ z, (w4.alloc (.cells #[.int .i64 0, .int .i64 1, .int .i64 100001] 3)).cell? ⟨w4.heap.size, j, none⟩ = some (.int .i64 z) ∧ 0 ≤ z ∧ z ≤ 100001) := show ∀ j, _ → _ from fun j hj => ints_cell w4 [0, 1, 100001] (fun z => 0 ≤ z ∧ z ≤ 100001) (by decide) _ rfl j hj
        obtain ⟨v8, Wv8⟩ : ∃ wz, Hid (wz = w4.alloc (.cells #[.int .i64 0, .int .i64 1, .int .i64 100001] 3)) := ⟨_, rfl⟩
        rw [← Wv8.out] at hS ba L6v8 ⊢
        have wrv8 : Wr b w4 v8 := .of_below ba
        have Dv8 := Lib.hid (D4.out.later ba)
        clear ba Wv8
        have Uv8 := Lib.hid wrv8
        have hbv8 : b < v8.heap.size := Dv8.out.cur.lt
        have hzv8 : w4.heap.size ≤ v8.heap.size := wrv8.size
        clear wrv8
        refine wpAnyL_ready (rs := [3]) (by kernel_rfl) (by simp) ?_
        refine AllReadyL.cons rfl (fun K hK => ?_) AllReadyL.nil
        rw [if_pos (by rfl)]
        simp only [List.getElem_toArray, List.getElem_cons_succ, List.getElem_cons_zero]
        go_wp2_with fail
        have ba := alloc_below v8 (.cells #[.string ⟨#[97]⟩, .string ⟨#[122]⟩, .string ⟨#[]⟩, .string ⟨#[102, 111, 114]⟩] 9)
        have hS2 := And.intro (heap_b8 hS.1 ba) trivial
        refine hK.out _ _ (fun _ => hS2) ?_
        clear hS hK
        have hS := hS2
        clear hS2
        have L3v9 : Hid (∀ j, j < 4 → ∃ z, (v8.alloc (.cells #[.string ⟨#[97]⟩, .string ⟨#[122]⟩, .string ⟨#[]⟩, .string ⟨#[102, 111, 114]⟩] 9)).cell? ⟨v8.heap.size, j, none⟩ = some (Value.string z) ∧ z.size ≤ 3) := show ∀ j, _ → _ from fun j hj => strs_cell v8 [⟨#[97]⟩, ⟨#[122]⟩, ⟨#[]⟩, ⟨#[102, 111, 114]⟩] (fun z => z.size ≤ 3) (by decide) _ rfl j hj
        obtain ⟨v9, Wv9⟩ : ∃ wz, Hid (wz = v8.alloc (.cells #[.string ⟨#[97]⟩, .string ⟨#[122]⟩, .string ⟨#[]⟩, .string ⟨#[102, 111, 114]⟩] 9)) := ⟨_, rfl⟩
        rw [← Wv9.out] at hS ba L3v9 ⊢
        have wrv9 : Wr b v8 v9 := .of_below ba
        have Dv9 := Lib.hid (Dv8.out.later ba)
        clear ba Wv9
        have Uv9 := Lib.hid (Uv8.out.trans wrv9)
        have hbv9 : b < v9.heap.size := Dv9.out.cur.lt
        have hzv9 : v8.heap.size ≤ v9.heap.size := wrv9.size
        have L6v8x := Lib.hid (cells_w8 L6v8.out wrv9 (by omega))
        clear wrv9
        refine wpAnyL_ready (rs := [4]) (by kernel_rfl) (by simp) ?_
        refine AllReadyL.cons rfl (fun K hK => ?_) AllReadyL.nil
        rw [if_pos (by rfl)]
        simp only [List.getElem_toArray, List.getElem_cons_succ, List.getElem_cons_zero]
        go_wp2_with fail
        refine (l1Str_is B a len cap b v8.heap.size 4 4 (fun z => z.size ≤ 3) _ Dv9.out (by omega) (by omega) (by omega) L3v9.out).mono ?_
        rintro e v10 ⟨ss, rfl, hss, dv10, wrv10⟩
        have HSS := Lib.hid hss
        clear hss
        have Dv10 := Lib.hid dv10
        clear dv10
        go_wp2_with fail
        have hS2 := And.intro (heap_w8 hS.1 wrv10 (by omega)) trivial
        refine hK.out _ _ (fun _ => hS2) ?_
        clear hS hK
        have hS := hS2
        clear hS2
        have Uv10 := Lib.hid (Uv9.out.trans wrv10)
        have hbv10 : b < v10.heap.size := Dv10.out.cur.lt
        have hzv10 : v9.heap.size ≤ v10.heap.size := wrv10.size
        have L6v8xx := Lib.hid (cells_w8 L6v8x.out wrv10 (by omega))
        clear wrv10
        refine wpAnyL_ready (rs := [7]) (by kernel_rfl) (by simp) ?_
        refine AllReadyL.cons rfl (fun K hK => ?_) AllReadyL.nil
        rw [if_pos (by rfl)]
        simp only [List.getElem_toArray, List.getElem_cons_succ, List.getElem_cons_zero]
        go_wp2_with fail
        refine (l1Int_is B a len cap b w4.heap.size 3 3 (fun z => 0 ≤ z ∧ z ≤ 100001) _ Dv10.out (by omega) (by omega) (by omega) L6v8xx.out).mono ?_
        rintro e v11 ⟨nn, rfl, hnn, dv11, wrv11⟩
        have HNN := Lib.hid hnn
        clear hnn
        have Dv11 := Lib.hid dv11
        clear dv11
        go_wp2_with fail
        have hS2 := And.intro (heap_w8 hS.1 wrv11 (by omega)) trivial
        refine hK.out _ _ (fun _ => hS2) ?_
        clear hS hK
        have hS := hS2
        clear hS2
        have Uv11 := Lib.hid (Uv10.out.trans wrv11)
        have hbv11 : b < v11.heap.size := Dv11.out.cur.lt
        have hzv11 : v10.heap.size ≤ v11.heap.size := wrv11.size
        have L6v8xxx := Lib.hid (cells_w8 L6v8xx.out wrv11 (by omega))
        clear wrv11
        have O5 := Lib.hid (own_w8 O4.out Uv11.out (by omega))
        have R5 := Lib.hid (heap_w8 R4.out Uv11.out (by omega))
        have W5 := Lib.hid (W4.out.trans Uv11.out)
        have HV := Lib.hid O5.out.lt
        have hq5 : w.heap.size + 1 ≤ v11.heap.size := by have := Uv11.out.size; omega
        refine wpAnyL_take (i := 8) (v := .agg #[.string ss, .int .i64 nn]) rfl (by kernel_rfl) (by kernel_rfl) (by kernel_rfl) (by kernel_rfl) (fun _ _ _ h => h) (Or.inl ⟨by rfl, ?yab118⟩) hS ?_
        case yab118 => intro w hSw; go_simp
        simp only [Act.put, List.getElem_toArray, List.getElem_cons_succ, List.getElem_cons_zero, List.setIfInBounds_toArray, List.set_cons_zero, List.set_cons_succ]
        have NE : Hid (∀ k, (Value.slice oa X.length oc).ownBlock = some k → k < w1.heap.size) := show ∀ k, _ → _ from fun k h => (HV1.out k h).2
        have HS0 := Lib.hid hS
        refine wpAnyL_ready (rs := [9]) (by kernel_rfl) (by simp) ?_
        refine AllReadyL.cons rfl (fun K hK => ?_) AllReadyL.nil
        rw [if_pos (by rfl)]
        simp only [List.getElem_toArray, List.getElem_cons_succ, List.getElem_cons_zero]
        go_wp2_with fail
        have hS2 := And.intro (heap_b8 HS0.out.1 (alloc_below v11 (.cells #[.string ss, .int .i64 nn] 70))) trivial
        refine hK.out _ _ (fun _ => hS2) ?_
        clear hS hK
        have hS := hS2
        clear hS2
        refine wpAnyL_ready (rs := [10]) (by kernel_rfl) (by simp) ?_
        refine AllReadyL.cons rfl (fun K hK => ?_) AllReadyL.nil
        rw [if_pos (by rfl)]
        simp only [List.getElem_toArray, List.getElem_cons_succ, List.getElem_cons_zero]
        refine wp_append_own _ _ _ 24 (by rfl) (w.heap.size + 1) 70 i0 _ 2 24 Tryz.underlying24 hi0 hz0 hz1 hz2 rfl (by decide) _ _ _ (by rfl) (O5.out.alloc _) ⟨v11.heap.size, 0, Option.none⟩ 1 1 [.string ss, .int .i64 nn] (by rfl) (by rfl) (new2T _ _ _ _) (two8 _ _) (by have := HXN.out; unfold maxLen; omega) (by have := HXN.out; omega) (by simp; omega) ?_
        intro v' w8 hown8 hgrow8 _
        obtain ⟨a8, c8, rfl⟩ := ownShape hown8
        have F8 : Below (w.heap.size + 1) v11 w8 := ((Below.refl _ v11).alloc hq5 _).grown hgrow8 (by simp; omega) (fun k hk => (HV.out k hk).1)
        have D8 := Lib.hid (((Dv11.out.below8 F8 (by omega))).below8 ((Below.refl w1.heap.size w8).setCell (p := ⟨w1.heap.size, 1, Option.none⟩) (Nat.le_refl _) (.slice a8 (X.length + 1) c8)) (by omega))
        have WR8 := Lib.hid ((W5.out.below8 F8 (by omega)).below8 ((Below.refl w1.heap.size w8).setCell (p := ⟨w1.heap.size, 1, Option.none⟩) (Nat.le_refl _) (.slice a8 (X.length + 1) c8)) (by omega))
        have R9 := Lib.hid (heap_n8 R5.out F8 (by omega))
        clear F8
        have HV8 := Lib.hid hown8.lt
        have hS2 := And.intro (heap_g8 (heap_b8 HS0.out.1 (alloc_below v11 _)) hgrow8 (fun e => by have := NE.out _ e; omega)) trivial
        refine hK.out _ _ (fun _ => hS2) ?_
        clear hS hK
        have hS := hS2
        clear hS2
        simp only [Act.put, List.getElem_toArray, List.getElem_cons_succ, List.getElem_cons_zero, List.setIfInBounds_toArray, List.set_cons_zero, List.set_cons_succ]
        refine wpAnyL_take (i := 11) (v := .pointer (some ⟨w1.heap.size, 1, Option.none⟩)) rfl (by kernel_rfl) (by kernel_rfl) (by kernel_rfl) (by kernel_rfl) (fun _ _ _ h => h) (Or.inl ⟨by rfl, ?yab1111⟩) hS ?_
        case yab1111 => intro w hSw; go_simp
        simp only [Act.put, List.getElem_toArray, List.getElem_cons_succ, List.getElem_cons_zero, List.setIfInBounds_toArray, List.set_cons_zero, List.set_cons_succ]
        have T8 := Lib.hid hS.1
        refine wpAnyL_ready (rs := [12]) (by kernel_rfl) (by simp) ?_
        refine AllReadyL.cons rfl (fun K hK => ?_) AllReadyL.nil
        rw [if_pos (by rfl)]
        simp only [List.getElem_toArray, List.getElem_cons_succ, List.getElem_cons_zero]
        obtain ⟨⟨e0, e1⟩, k0, k1⟩ := blk2 T8.out
        go_wp2_with fail
        refine hK.out _ _ (fun e => absurd rfl e) ?_
        clear hK hS
        refine wpAnyL_done (by kernel_rfl) ?_ _
        have O9 : Hid ((w8.setCell ⟨w1.heap.size, 1, Option.none⟩ (.slice a8 (X.length + 1) c8)).ownsRow (w.heap.size + 1) 70 2 (.slice a8 (X.length + 1) c8) (X ++ [(⟨ss, nn⟩ : AR)]).length (acells (X ++ [(⟨ss, nn⟩ : AR)]))) := by
          rw [List.length_append, acells_snoc]
          exact own_later8 hown8 (fun g c hg hh => Below.heap_setCell _ _ _ _ (ne_types8 hh T8.out))
        have T9 := Lib.hid (Go.heap_setCell_same _ _ 1 _ _ (.slice a8 (X.length + 1) c8) T8.out)
        clear hown8 hgrow8 e0 e1 k0 k1
        have R10 : Hid ((w8.setCell ⟨w1.heap.size, 1, Option.none⟩ (.slice a8 (X.length + 1) c8)).heap[w.heap.size]? = some (.cells #[.int .i64 0, .slice Option.none 0 0] 26)) := (Below.heap_setCell _ _ _ _ (by show w.heap.size ≠ w1.heap.size; omega)).trans R9.out
        have HP9 := Lib.hid (HP.out.any_snoc HSS.out HNN.out)
        have O10 : Hid ((w8.setCell ⟨w1.heap.size, 1, Option.none⟩ (.slice a8 (X.length + 1) c8)).ownsRow (w.heap.size + 1) 70 2 (.slice a8 (X.length + 1) c8) (X ++ [(⟨ss, nn⟩ : AR)]).length (acells (X ++ [(⟨ss, nn⟩ : AR)]))) := O9.out
        obtain ⟨⟨y0, y1⟩, _⟩ := blk2 T9.out
        obtain ⟨⟨z0, z1⟩, f0, f1⟩ := blk2 R10.out
        go_wp2
        have g0 := Go.heap_setCell_same _ _ 0 _ _ (.int .i64 cc) R10.out
        have g1 := Go.heap_setCell_same _ _ 1 _ _ (.slice a8 (X.length + 1) c8) g0
        clear z0 z1
        obtain ⟨⟨z0, z1⟩, _⟩ := blk2 g1
        refine bodyPost_ret (v := .agg #[.int .i64 cc, .slice a8 (X.length + 1) c8]) (by simp [results, Tryz.results70, go_sem, z0, z1]) rfl ⟨cc, X ++ [(⟨ss, nn⟩ : AR)], .slice a8 (X.length + 1) c8, rfl, HP9.out, ?_, D8.out.below8 (fin8 _ _ _ _) hbz, WR8.out.below8 (fin8 _ _ _ _) (Nat.le_refl _)⟩
        exact ownMono8 (B := w.heap.size + 1) (by omega) (own_later8 O10.out fun g _ hg _ => by
          have hne : g ≠ w.heap.size := by omega
          exact (Below.heap_setCell _ _ _ _ hne).trans (Below.heap_setCell _ _ _ _ hne))
    · have hy1b : (y == 1) = false := by simp [hy1]
      obtain ⟨⟨y0, y1⟩, _⟩ := blk2 T3.out
      obtain ⟨⟨z0, z1⟩, f0, f1⟩ := blk2 R3.out
      go_wp2
      have g0 := Go.heap_setCell_same _ _ 0 _ _ (.int .i64 cc) R3.out
      have g1 := Go.heap_setCell_same _ _ 1 _ _ (.slice oa X.length oc) g0
      clear z0 z1
      obtain ⟨⟨z0, z1⟩, _⟩ := blk2 g1
      refine bodyPost_ret (v := .agg #[.int .i64 cc, .slice oa X.length oc]) (by simp [results, Tryz.results70, go_sem, z0, z1]) rfl ⟨cc, X, .slice oa X.length oc, rfl, HP.out.any (by have := HP.out.1; omega), ?_, D3.out.below8 (fin8 _ _ _ _) hbz, WR3.out.below8 (fin8 _ _ _ _) (Nat.le_refl _)⟩
      exact ownMono8 (B := w.heap.size + 1) (by omega) (own_later8 O3.out fun g _ hg _ => by
        have hne : g ≠ w.heap.size := by omega
        exact (Below.heap_setCell _ _ _ _ hne).trans (Below.heap_setCell _ _ _ _ hne))
end Go.Proofs.YtjdpddcnogdekaaGreat
