/-
  Texts in one: A8Draw, A8Any.
-/
import Derived.Test.YtjdpddcnogdekaaP30ofDx
import Derived.Test.YtjdpddcnogdekaaP34ofDx
import Derived.Test.YtjdpddcnogdekaaP35ofDx
/-
  The draws of chapter 8: l8Draw, l8Any, l8Binds.
-/
namespace Go.Proofs.Ytjdpddcnogdekaa
open Go.RowKit Go.Lib
set_option linter.unusedSimpArgs false
set_option linter.unusedVariables false

theorem l1Once_is8 (B : Nat) (a : Option Addr) (len cap b : Nat) (n : Int) (w : World) (d : Dw B a len cap b w) (hn0 : 0 < n) :
    Calls Try.prog 27 #[.pointer (some ⟨b, 0, none⟩), .int .i64 n] w fun e w' => ∃ x : Bool, e = .returned (.bool x) ∧ Dw B a len cap b w' ∧ Wr b w w' :=
  (l1Once B a len cap b n w d.hlen d.hB d.hC d.cur hn0).mono fun e w' ⟨x, h1, h2, h3⟩ => ⟨x, h1, d.touch h3 h2, .of_touch h3⟩
theorem heap_w8 {A B : World} {b k : Nat} {x : Obj} (h : A.heap[k]? = some x) (hw : Wr b A B) (hne : k ≠ b) : B.heap[k]? = some x := (hw.block k (lt_of_heap h) hne).trans h
theorem own_w8 {A B : World} {b D sz n : Nat} {e : TypeId} {v : Value} {xs : List Value} (h : A.ownsRow D e sz v n xs) (hw : Wr b A B) (hb : b < D) : B.ownsRow D e sz v n xs :=
  own_later8 h fun g _ hg hh => hw.block g (lt_of_heap hh) (by omega)
theorem Dw.below8 {B : Nat} {a : Option Addr} {len cap b n : Nat} {w w' : World} (d : Dw B a len cap b w) (hb : Below n w w') (hn : b < n) : Dw B a len cap b w' :=
  ⟨d.hlen, d.hB, d.hC.later (hb.mono (by have := d.hB; omega)), d.cur.later (hb.block b hn)⟩
theorem Wr.below8 {b n : Nat} {w A B : World} (h : Wr b w A) (k : Below n A B) (hn : w.heap.size ≤ n) : Wr b w B :=
  ⟨k.os.trans h.os, k.tape.trans h.tape, k.output.trans h.output, Nat.le_trans h.size k.size, fun i hi hne => (k.block i (by omega)).trans (h.block i hi hne)⟩
theorem heap_n8 {A B : World} {n k : Nat} {x : Obj} (h : A.heap[k]? = some x) (hb : Below n A B) (hk : k < n) : B.heap[k]? = some x := (hb.block k hk).trans h
/-- A sum was drawn, with this about it. -/
def DrawnT8 (p : Int → List AR → Prop) (B : Nat) (a : Option Addr) (len cap b : Nat) (w : World) (e : Ending) (w' : World) : Prop :=
  ∃ (c : Int) (ts : List AR) (v : Value), e = .returned (.agg #[.int .i64 c, v]) ∧ p c ts ∧ w'.ownsRow w.heap.size 66 2 v ts.length (acells ts) ∧ Dw B a len cap b w' ∧ Wr b w w'
def nm3 : List ByteArray := [⟨#[105]⟩, ⟨#[106]⟩, ⟨#[107]⟩]
/-- Names of the first k in order, small numbers. -/
def Sub8 (k : Nat) (ts : List AR) : Prop := Asc8 ts ∧ ts.length ≤ k ∧ ∀ t ∈ ts, (∃ j, j < k ∧ nm3[j]? = some t.s) ∧ -2 ≤ t.n ∧ t.n ≤ 4 ∧ t.n ≠ 0
theorem Sub8.more {k : Nat} {ts : List AR} (h : Sub8 k ts) : Sub8 (k + 1) ts :=
  ⟨h.1, by have := h.2.1; omega, fun t ht => by obtain ⟨⟨j, h1, h2⟩, h3⟩ := h.2.2 t ht; exact ⟨⟨j, by omega, h2⟩, h3⟩⟩
theorem nm3_lt {j k : Nat} {s t : ByteArray} (hj : nm3[j]? = some s) (hk : nm3[k]? = some t) (h : j < k) : blt s t = true := by
  have : k < 3 := (List.getElem?_eq_some_iff.1 hk).1
  have : (j = 0 ∧ k = 1) ∨ (j = 0 ∧ k = 2) ∨ (j = 1 ∧ k = 2) := by omega
  rcases this with ⟨rfl, rfl⟩ | ⟨rfl, rfl⟩ | ⟨rfl, rfl⟩ <;> (simp only [nm3, List.getElem?_cons_zero, List.getElem?_cons_succ, Option.some.injEq] at hj hk; subst hj; subst hk; decide +kernel)
theorem Sub8.snoc {k : Nat} {ts : List AR} {s : ByteArray} {n : Int} (h : Sub8 k ts) (hs : nm3[k]? = some s) (hn : -2 ≤ n ∧ n ≤ 4 ∧ n ≠ 0) : Sub8 (k + 1) (ts ++ [⟨s, n⟩]) := by
  refine ⟨?_, by have := h.2.1; simp; omega, fun t ht => ?_⟩
  · refine List.pairwise_append.2 ⟨h.1, by simp, fun x hx y hy => ?_⟩
    simp only [List.mem_cons, List.not_mem_nil, or_false] at hy
    subst hy
    obtain ⟨⟨j, h1, h2⟩, _⟩ := h.2.2 x hx
    exact nm3_lt h2 hs h1
  · rcases List.mem_append.1 ht with ht | ht
    · exact h.more.2.2 t ht
    · simp only [List.mem_cons, List.not_mem_nil, or_false] at ht
      subst ht
      exact ⟨⟨k, by omega, hs⟩, hn⟩
def Small8 (c : Int) (ts : List AR) : Prop := (-4 ≤ c ∧ c ≤ 8) ∧ Sub8 3 ts
set_option maxHeartbeats 4000000 in
set_option maxRecDepth 100000 in
theorem l8Draw_is (B : Nat) (a : Option Addr) (len cap b : Nat) (w : World) (d : Dw B a len cap b w) :
    Calls Try.prog 28 #[.pointer (some ⟨b, 0, none⟩)] w (DrawnT8 Small8 B a len cap b w) := by
  obtain ⟨i0, hi0, hz0, hz1, hz2⟩ := info_parts infoIT8
  have hbz : b < w.heap.size := d.cur.lt
  have bz := alloc_below w (.cells #[.int .i64 0, .slice Option.none 0 0] 26)
  have D0 := Lib.hid (d.later bz)
  have R0 := Lib.hid (heap_last w (.cells #[.int .i64 0, .slice Option.none 0 0] 26))
  have WR0 : Hid (Wr b w (w.alloc (.cells #[.int .i64 0, .slice Option.none 0 0] 26))) := Wr.of_below bz
  clear d bz
  go_enter Try.func28, Try.ntmps28
  go_wp2_with fail
  refine (l1Below_is B a len cap b 13 _ D0.out (by omega)).mono ?_
  rintro e w1 ⟨x, rfl, ⟨x0, x1⟩, d1, wr1⟩
  have hs1 : w.heap.size + 1 ≤ w1.heap.size := by have := wr1.size; rwa [World.size_alloc] at this
  have R1 := Lib.hid (heap_w8 R0.out wr1 (by omega))
  have D1 := Lib.hid d1
  have WR1 := Lib.hid (WR0.out.trans wr1)
  obtain ⟨cc, hcc⟩ : ∃ cc, x - 4 = cc := ⟨_, rfl⟩
  have HC : Hid (-4 ≤ cc ∧ cc ≤ 8) := show _ ∧ _ by omega
  have Q2 := Lib.hid (heap2t w1 (.cells #[.int .i64 cc, .slice Option.none 0 0] 26) (.cells #[.string ⟨#[105]⟩, .string ⟨#[106]⟩, .string ⟨#[107]⟩] 9))
  have B2 : Hid (Below w1.heap.size w1 ((w1.alloc (.cells #[.int .i64 cc, .slice Option.none 0 0] 26)).alloc (.cells #[.string ⟨#[105]⟩, .string ⟨#[106]⟩, .string ⟨#[107]⟩] 9))) := show Below _ _ _ from (alloc_below w1 _).alloc (by simp) _
  clear d1 wr1 R0 D0 WR0
  go_wp2
  go_loopw [5] (fun i wr => ∃ (k : Nat) (X : List AR) (v : Value), k ≤ 3 ∧ i = .int .i64 (k : Int) ∧ Hid (Sub8 k X) ∧ Hid (wr.ownsRow (w1.heap.size + 1 + 1) 66 2 v X.length (acells X)) ∧ Hid (wr.heap[w1.heap.size]? = some (.cells #[.int .i64 cc, v] 26)) ∧ Hid (wr.heap[w1.heap.size + 1]? = some (.cells #[.string ⟨#[105]⟩, .string ⟨#[106]⟩, .string ⟨#[107]⟩] 9)) ∧ Hid (wr.heap[w.heap.size]? = some (.cells #[.int .i64 0, .slice Option.none 0 0] 26)) ∧ Hid (Dw B a len cap b wr) ∧ Hid (Wr b w wr) ∧ w1.heap.size + 1 + 1 ≤ wr.heap.size) (fun i _ => 3 - (RowKit.intOf i).toNat)
  case atStart => exact ⟨0, [], .slice Option.none 0 0, by omega, rfl, ⟨by simp [Asc8], by simp, by simp⟩, World.ownsRow_nil _ _ _ _, Q2.out.1, Q2.out.2, heap_b8 R1.out B2.out, D1.out.later B2.out, WR1.out.trans (.of_below B2.out), by simp⟩
  case round =>
    obtain ⟨k, X, v, hk, rfl, HX, HOw, HT, HN, HR, HD, HW, hq⟩ := hrel
    obtain ⟨oa, oc, rfl⟩ := ownShape HOw.out
    have HXN : Hid (X.length ≤ 8000000) := show _ ≤ _ by have := HX.out.2.1; omega
    by_cases hlt : k < 3
    · have hltI : (k : Int) < 3 := by omega
      go_wp2_with fail
      refine (l1Once_is8 B a len cap b 2 _ HD.out (by omega)).mono ?_
      rintro e w5 ⟨y, rfl, d5, wr5⟩
      cases y with
      | false =>
        have O5 := Lib.hid (own_w8 HOw.out wr5 (by omega))
        have T5 := Lib.hid (heap_w8 HT.out wr5 (by omega))
        have N5 := Lib.hid (heap_w8 HN.out wr5 (by omega))
        have R5 := Lib.hid (heap_w8 HR.out wr5 (by omega))
        have D5 := Lib.hid d5
        have W5 := Lib.hid (HW.out.trans wr5)
        have hq5 := Nat.le_trans hq wr5.size
        have HX5 := Lib.hid HX.out.more
        clear d5 wr5 HX HOw HT HN HR HD HW
        go_wp2
        go_roundw
        case rel => exact ⟨k + 1, X, .slice oa X.length oc, by omega, by go_num, HX5.out, O5.out, T5.out, N5.out, R5.out, D5.out, W5.out, hq5⟩
        case measure => simp [RowKit.intOf]; omega
      | true =>
        go_wp2_with fail
        have ba := alloc_below w5 (.cells #[.int .i64 1, .int .i64 1, .int .i64 2, .int .i64 3, .int .i64 (-1), .int .i64 (-2), .int .i64 4] 3)
        have hbw5 : b < w5.heap.size := d5.cur.lt
        refine (l1Int_is B a len cap b w5.heap.size 7 7 (fun z => -2 ≤ z ∧ z ≤ 4 ∧ z ≠ 0) _ (d5.later ba) (by omega) (by omega) (by omega) (fun j hj => ints_cell w5 [1, 1, 2, 3, -1, -2, 4] _ (by decide) _ rfl j hj)).mono ?_
        rintro e w6 ⟨nn, rfl, hn, d6, wr6⟩
        have wr56 : Wr b wr w6 := (wr5.trans (.of_below ba)).trans wr6
        have HNN := Lib.hid hn
        have O6 := Lib.hid (own_w8 HOw.out wr56 (by omega))
        have T6 := Lib.hid (heap_w8 HT.out wr56 (by omega))
        have N6 := Lib.hid (heap_w8 HN.out wr56 (by omega))
        have R6 := Lib.hid (heap_w8 HR.out wr56 (by omega))
        have D6 := Lib.hid d6
        have W6 := Lib.hid (HW.out.trans wr56)
        have hq6 := Nat.le_trans hq wr56.size
        obtain ⟨s, hs⟩ : ∃ s, nm3[k]? = some s := ⟨nm3[k]'(by simpa [nm3] using hlt), List.getElem?_eq_getElem _⟩
        have HS := Lib.hid hs
        have NC : Hid (∀ wx : World, wx.heap[w1.heap.size + 1]? = some (.cells #[.string ⟨#[105]⟩, .string ⟨#[106]⟩, .string ⟨#[107]⟩] 9) → wx.cell? ⟨w1.heap.size + 1, k, Option.none⟩ = some (.string s)) := show ∀ wx : World, _ → _ from by
          intro wx hx
          have : k = 0 ∨ k = 1 ∨ k = 2 := by omega
          rcases this with rfl | rfl | rfl <;> (simp only [nm3, List.getElem?_cons_zero, List.getElem?_cons_succ, Option.some.injEq] at hs; subst hs; simp [World.cell?, hx])
        clear d5 wr5 ba d6 wr6 wr56 hn hs HOw HT HN HR HD HW
        go_wp2_with fail
        have bd : Below w6.heap.size w6 w6.drew := (Below.refl _ w6).drew
        obtain ⟨w7, Wd⟩ : ∃ w7, Hid (w7 = w6.drew) := ⟨_, rfl⟩
        have hS : w7.heap[w1.heap.size]? = some (.cells #[.int .i64 cc, .slice oa X.length oc] 26) ∧ w7.heap[w1.heap.size + 1]? = some (.cells #[.string ⟨#[105]⟩, .string ⟨#[106]⟩, .string ⟨#[107]⟩] 9) := by rw [Wd.out]; exact ⟨heap_b8 T6.out bd, heap_b8 N6.out bd⟩
        refine wp_region_last (fun w' => w'.heap[w1.heap.size]? = some (.cells #[.int .i64 cc, .slice oa X.length oc] 26) ∧ w'.heap[w1.heap.size + 1]? = some (.cells #[.string ⟨#[105]⟩, .string ⟨#[106]⟩, .string ⟨#[107]⟩] 9)) 11 (by kernel_rfl) ?_
        rw [← Wd.out] at bd ⊢
        have O7 := Lib.hid (own_below8 O6.out bd)
        have R7 := Lib.hid (heap_b8 R6.out bd)
        have N7 := Lib.hid hS.2
        have D7 := Lib.hid (D6.out.later bd)
        have W7 := Lib.hid (W6.out.trans (.of_below bd))
        have hq5 : w1.heap.size + 1 + 1 ≤ w7.heap.size := Nat.le_trans hq6 bd.size
        have HV := Lib.hid O7.out.lt
        clear bd Wd
        refine wpAnyL_take (i := 0) (v := .pointer (some ⟨w1.heap.size, 1, Option.none⟩)) rfl (by kernel_rfl) (by kernel_rfl) (by kernel_rfl) (by kernel_rfl) (fun _ _ _ h => h) (Or.inl ⟨by rfl, ?yda0⟩) hS ?_
        case yda0 => intro w hSw; go_simp
        simp only [Act.put, List.getElem_toArray, List.getElem_cons_succ, List.getElem_cons_zero, List.setIfInBounds_toArray, List.set_cons_zero, List.set_cons_succ]
        refine wpAnyL_take (i := 1) (v := .slice oa X.length oc) rfl (by kernel_rfl) (by kernel_rfl) (by kernel_rfl) (by kernel_rfl) (fun _ _ _ h => h) (Or.inl ⟨by rfl, ?yda1⟩) hS ?_
        case yda1 => intro w hSw; obtain ⟨⟨j0, j1⟩, _⟩ := blk2 hSw.1; go_simp
        simp only [Act.put, List.getElem_toArray, List.getElem_cons_succ, List.getElem_cons_zero, List.setIfInBounds_toArray, List.set_cons_zero, List.set_cons_succ]
        refine wpAnyL_take (i := 2) (v := .slice (some ⟨w1.heap.size + 1, 0, Option.none⟩) 3 3) rfl (by kernel_rfl) (by kernel_rfl) (by kernel_rfl) (by kernel_rfl) (fun _ _ _ h => h) (Or.inl ⟨by rfl, ?yda2⟩) hS ?_
        case yda2 => intro w hSw; go_simp
        simp only [Act.put, List.getElem_toArray, List.getElem_cons_succ, List.getElem_cons_zero, List.setIfInBounds_toArray, List.set_cons_zero, List.set_cons_succ]
        refine wpAnyL_take (i := 3) (v := .int .i64 (k : Int)) rfl (by kernel_rfl) (by kernel_rfl) (by kernel_rfl) (by kernel_rfl) (fun _ _ _ h => h) (Or.inl ⟨by rfl, ?yda3⟩) hS ?_
        case yda3 => intro w hSw; go_simp
        simp only [Act.put, List.getElem_toArray, List.getElem_cons_succ, List.getElem_cons_zero, List.setIfInBounds_toArray, List.set_cons_zero, List.set_cons_succ]
        refine wpAnyL_take (i := 4) (v := .pointer (some ⟨w1.heap.size + 1, k, Option.none⟩)) rfl (by kernel_rfl) (by kernel_rfl) (by kernel_rfl) (by kernel_rfl) (fun _ _ _ h => h) (Or.inl ⟨by rfl, ?yda4⟩) hS ?_
        case yda4 => intro w hSw; go_simp
        simp only [Act.put, List.getElem_toArray, List.getElem_cons_succ, List.getElem_cons_zero, List.setIfInBounds_toArray, List.set_cons_zero, List.set_cons_succ]
        refine wpAnyL_take (i := 5) (v := .string s) rfl (by kernel_rfl) (by kernel_rfl) (by kernel_rfl) (by kernel_rfl) (fun _ _ _ h => h) (Or.inl ⟨by rfl, ?yda5⟩) hS ?_
        case yda5 => intro w hSw; have q := NC.out _ hSw.2; go_simp
        simp only [Act.put, List.getElem_toArray, List.getElem_cons_succ, List.getElem_cons_zero, List.setIfInBounds_toArray, List.set_cons_zero, List.set_cons_succ]
        refine wpAnyL_take (i := 6) (v := .int .i64 nn) rfl (by kernel_rfl) (by kernel_rfl) (by kernel_rfl) (by kernel_rfl) (fun _ _ _ h => h) (Or.inl ⟨by rfl, ?yda6⟩) hS ?_
        case yda6 => intro w hSw; go_simp
        simp only [Act.put, List.getElem_toArray, List.getElem_cons_succ, List.getElem_cons_zero, List.setIfInBounds_toArray, List.set_cons_zero, List.set_cons_succ]
        refine wpAnyL_take (i := 7) (v := .agg #[.string s, .int .i64 nn]) rfl (by kernel_rfl) (by kernel_rfl) (by kernel_rfl) (by kernel_rfl) (fun _ _ _ h => h) (Or.inl ⟨by rfl, ?yda7⟩) hS ?_
        case yda7 => intro w hSw; go_simp
        simp only [Act.put, List.getElem_toArray, List.getElem_cons_succ, List.getElem_cons_zero, List.setIfInBounds_toArray, List.set_cons_zero, List.set_cons_succ]
        have HS0 := Lib.hid hS
        refine wpAnyL_ready (rs := [8]) (by kernel_rfl) (by simp) ?_
        refine AllReadyL.cons rfl (fun K hK => ?_) AllReadyL.nil
        rw [if_pos (by rfl)]
        simp only [List.getElem_toArray, List.getElem_cons_succ, List.getElem_cons_zero]
        go_wp2_with fail
        have hS2 := And.intro (heap_n8 HS0.out.1 (alloc_below w7 (.cells #[.string s, .int .i64 nn] 66)) (by omega)) (heap_n8 HS0.out.2 (alloc_below w7 (.cells #[.string s, .int .i64 nn] 66)) (by omega))
        refine hK.out _ _ (fun _ => hS2) ?_
        clear hS hK
        have hS := hS2
        clear hS2
        refine wpAnyL_ready (rs := [9]) (by kernel_rfl) (by simp) ?_
        refine AllReadyL.cons rfl (fun K hK => ?_) AllReadyL.nil
        rw [if_pos (by rfl)]
        simp only [List.getElem_toArray, List.getElem_cons_succ, List.getElem_cons_zero]
        refine wp_append_own _ _ _ 24 (by rfl) (w1.heap.size + 1 + 1) 66 i0 _ 2 24 Try.underlying24 hi0 hz0 hz1 hz2 rfl (by decide) _ _ _ (by rfl) (O7.out.alloc _) ⟨w7.heap.size, 0, Option.none⟩ 1 1 [.string s, .int .i64 nn] (by rfl) (by rfl) (new2T _ _ _ _) (two8 _ _) (by have := HXN.out; unfold maxLen; omega) (by have := HXN.out; omega) (by simp; omega) ?_
        intro v' w8 hown8 hgrow8 _
        obtain ⟨a8, c8, rfl⟩ := ownShape hown8
        have F8 : Below (w1.heap.size + 1 + 1) w7 w8 := ((Below.refl _ w7).alloc hq5 _).grown hgrow8 (by simp; omega) (fun k hk => (HV.out k hk).1)
        have D8 := Lib.hid (((D7.out.below8 F8 (by omega))).below8 ((Below.refl w1.heap.size w8).setCell (p := ⟨w1.heap.size, 1, Option.none⟩) (Nat.le_refl _) (.slice a8 (X.length + 1) c8)) (by omega))
        have WR8 := Lib.hid ((W7.out.below8 F8 (by omega)).below8 ((Below.refl w1.heap.size w8).setCell (p := ⟨w1.heap.size, 1, Option.none⟩) (Nat.le_refl _) (.slice a8 (X.length + 1) c8)) (by omega))
        have HF8 := Lib.hid F8
        have hS2 := And.intro (heap_n8 HS0.out.1 F8 (by omega)) (heap_n8 HS0.out.2 F8 (by omega))
        refine hK.out _ _ (fun _ => hS2) ?_
        clear hS hK
        have hS := hS2
        clear hS2
        clear F8
        simp only [Act.put, List.getElem_toArray, List.getElem_cons_succ, List.getElem_cons_zero, List.setIfInBounds_toArray, List.set_cons_zero, List.set_cons_succ]
        refine wpAnyL_take (i := 10) (v := .pointer (some ⟨w1.heap.size, 1, Option.none⟩)) rfl (by kernel_rfl) (by kernel_rfl) (by kernel_rfl) (by kernel_rfl) (fun _ _ _ h => h) (Or.inl ⟨by rfl, ?yda10⟩) hS ?_
        case yda10 => intro w hSw; go_simp
        simp only [Act.put, List.getElem_toArray, List.getElem_cons_succ, List.getElem_cons_zero, List.setIfInBounds_toArray, List.set_cons_zero, List.set_cons_succ]
        have T8 := Lib.hid hS.1
        refine wpAnyL_ready (rs := [11]) (by kernel_rfl) (by simp) ?_
        refine AllReadyL.cons rfl (fun K hK => ?_) AllReadyL.nil
        rw [if_pos (by rfl)]
        simp only [List.getElem_toArray, List.getElem_cons_succ, List.getElem_cons_zero]
        obtain ⟨⟨e0, e1⟩, k0, k1⟩ := blk2 T8.out
        go_wp2_with fail
        refine hK.out _ _ (fun e => absurd rfl e) ?_
        clear hK hS
        refine wpAnyL_done (by kernel_rfl) ?_ _
        have O9 : Hid ((w8.setCell ⟨w1.heap.size, 1, Option.none⟩ (.slice a8 (X.length + 1) c8)).ownsRow (w1.heap.size + 1 + 1) 66 2 (.slice a8 (X.length + 1) c8) (X ++ [(⟨s, nn⟩ : AR)]).length (acells (X ++ [(⟨s, nn⟩ : AR)]))) := by
          rw [List.length_append, acells_snoc]
          exact own_later8 hown8 (fun g _ hg _ => Below.heap_setCell _ _ _ _ (by show g ≠ w1.heap.size; omega))
        have T9 := Lib.hid (Go.heap_setCell_same _ _ 1 _ _ (.slice a8 (X.length + 1) c8) T8.out)
        clear hown8 hgrow8 e0 e1 k0 k1
        have N9 := Lib.hid (heap_n8 (heap_n8 N7.out HF8.out (by omega)) ((Below.refl (w1.heap.size + 1 + 1) w8)) (by omega))
        have N10 : Hid ((w8.setCell ⟨w1.heap.size, 1, Option.none⟩ (.slice a8 (X.length + 1) c8)).heap[w1.heap.size + 1]? = some (.cells #[.string ⟨#[105]⟩, .string ⟨#[106]⟩, .string ⟨#[107]⟩] 9)) := (Below.heap_setCell _ _ _ _ (by show w1.heap.size + 1 ≠ w1.heap.size; omega)).trans N9.out
        have R10 : Hid ((w8.setCell ⟨w1.heap.size, 1, Option.none⟩ (.slice a8 (X.length + 1) c8)).heap[w.heap.size]? = some (.cells #[.int .i64 0, .slice Option.none 0 0] 26)) := (Below.heap_setCell _ _ _ _ (by show w.heap.size ≠ w1.heap.size; omega)).trans (heap_n8 R7.out HF8.out (by omega))
        have HX9 := Lib.hid (HX.out.snoc HS.out HNN.out)
        have hq9 : w1.heap.size + 1 + 1 ≤ (w8.setCell ⟨w1.heap.size, 1, Option.none⟩ (.slice a8 (X.length + 1) c8)).heap.size := by have := HF8.out.size; simp; omega
        go_wp2
        go_roundw
        case rel => exact ⟨k + 1, X ++ [(⟨s, nn⟩ : AR)], (.slice a8 (X.length + 1) c8), by omega, by go_num, HX9.out, O9.out, T9.out, N10.out, R10.out, D8.out, WR8.out, hq9⟩
        case measure => simp [RowKit.intOf]; omega
    · have hltI : ¬ (k : Int) < 3 := by omega
      obtain rfl : k = 3 := by omega
      obtain ⟨⟨y0, y1⟩, _⟩ := blk2 HT.out
      obtain ⟨⟨z0, z1⟩, f0, f1⟩ := blk2 HR.out
      go_wp2
      have g0 := Go.heap_setCell_same _ _ 0 _ _ (.int .i64 cc) HR.out
      have g1 := Go.heap_setCell_same _ _ 1 _ _ (.slice oa X.length oc) g0
      clear z0 z1
      obtain ⟨⟨z0, z1⟩, _⟩ := blk2 g1
      have FZ : Below w.heap.size wr ((wr.setCell ⟨w.heap.size, 0, Option.none⟩ (.int .i64 cc)).setCell ⟨w.heap.size, 1, Option.none⟩ (.slice oa X.length oc)) := ((Below.refl w.heap.size wr).setCell (p := ⟨w.heap.size, 0, Option.none⟩) (Nat.le_refl _) _).setCell (p := ⟨w.heap.size, 1, Option.none⟩) (Nat.le_refl _) _
      refine bodyPost_ret (v := .agg #[.int .i64 cc, .slice oa X.length oc]) (by simp [results, Try.results28, go_sem, z0, z1]) rfl ⟨cc, X, .slice oa X.length oc, rfl, ⟨HC.out, HX.out⟩, ?_, HD.out.below8 FZ hbz, HW.out.below8 FZ (Nat.le_refl _)⟩
      exact ownMono8 (by omega) (own_later8 HOw.out fun g _ hg _ => by
        have hne : g ≠ w.heap.size := by omega
        exact (Below.heap_setCell _ _ _ _ hne).trans (Below.heap_setCell _ _ _ _ hne))
end Go.Proofs.Ytjdpddcnogdekaa
/-
  The draws of chapter 8: l8Any.
-/
namespace Go.Proofs.Ytjdpddcnogdekaa
open Go.RowKit Go.Lib
set_option linter.unusedSimpArgs false
set_option linter.unusedVariables false

theorem fin8 (W : World) (n : Nat) (u v : Value) : Below n W ((W.setCell ⟨n, 0, Option.none⟩ u).setCell ⟨n, 1, Option.none⟩ v) := ((Below.refl n W).setCell (p := ⟨n, 0, Option.none⟩) (Nat.le_refl _) _).setCell (p := ⟨n, 1, Option.none⟩) (Nat.le_refl _) _
/-- What l8Any may draw. -/
def Any8 (c : Int) (ts : List AR) : Prop := (-9223372036854775808 ≤ c ∧ c ≤ 9223372036854775807) ∧ ts.length ≤ 4 ∧ ∀ t ∈ ts, t.s.size ≤ 3 ∧ -9223372036854775808 ≤ t.n ∧ t.n ≤ 9223372036854775807
theorem nm3_size {j : Nat} {s : ByteArray} (h : nm3[j]? = some s) : s.size ≤ 3 := by
  have h3 : j < 3 := (List.getElem?_eq_some_iff.1 h).1
  have : j = 0 ∨ j = 1 ∨ j = 2 := by omega
  rcases this with rfl | rfl | rfl <;> (simp only [nm3, List.getElem?_cons_zero, List.getElem?_cons_succ, Option.some.injEq] at h; subst h; decide)
theorem Small8.any {c c' : Int} {ts : List AR} (h : Small8 c ts) (hc : -9223372036854775808 ≤ c' ∧ c' ≤ 9223372036854775807) : Any8 c' ts :=
  ⟨hc, by have := h.2.2.1; omega, fun t ht => by
    obtain ⟨⟨j, _, h2⟩, h3, h4, _⟩ := h.2.2.2 t ht
    exact ⟨nm3_size h2, by omega, by omega⟩⟩
theorem Small8.any_snoc {c : Int} {ts : List AR} {s : ByteArray} {n : Int} (h : Small8 c ts) (hs : s.size ≤ 3) (hn : 0 ≤ n ∧ n ≤ 100001) : Any8 c (ts ++ [⟨s, n⟩]) := by
  have k := h.any (c' := c) (by have := h.1; omega)
  refine ⟨k.1, by have := h.2.2.1; simp; omega, fun t ht => ?_⟩
  rcases List.mem_append.1 ht with ht | ht
  · exact k.2.2 t ht
  · simp only [List.mem_cons, List.not_mem_nil, or_false] at ht
    subst ht
    exact ⟨hs, by show -9223372036854775808 ≤ n; omega, by show n ≤ 9223372036854775807; omega⟩
theorem cells_w8 {A B : World} {b lb n : Nat} {α : Type} {F : α → Value} {q : α → Prop} (h : ∀ j, j < n → ∃ z, A.cell? ⟨lb, j, none⟩ = some (F z) ∧ q z) (hw : Wr b A B) (hne : lb ≠ b) : ∀ j, j < n → ∃ z, B.cell? ⟨lb, j, none⟩ = some (F z) ∧ q z := fun j hj => by
  obtain ⟨z, hz, hq⟩ := h j hj
  exact ⟨z, (World.cell?_of_block (a := ⟨lb, j, none⟩) (hw.block lb (lt_of_cellA hz) hne)).trans hz, hq⟩
end Go.Proofs.Ytjdpddcnogdekaa
