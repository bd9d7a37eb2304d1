/-
  Texts in one: B9Draw, B9Any.
-/
import Derived.Test.YtjdpddcnogdekaaGreatP36ofMx
import Derived.Test.YtjdpddcnogdekaaGreatP08ofMx
/-
  The draws of chapter 9: l9Draw, l9Any.
-/
namespace Go.Proofs.YtjdpddcnogdekaaGreat
open Go.RowKit Go.Lib
set_option linter.unusedSimpArgs false
set_option linter.unusedVariables false

theorem newL9 (w : World) (l : List Value) (t : TypeId) : ∀ j x, l[j]? = some x → (w.alloc (.cells l.toArray t)).cell? ((⟨w.heap.size, 0, Option.none⟩ : Addr).add j) = some x := by
  intro j x h
  have e : (⟨w.heap.size, 0, Option.none⟩ : Addr).add j = ⟨w.heap.size, j, Option.none⟩ := by simp [Addr.add]; omega
  rw [e, World.cell?_alloc_new]
  simpa using h
theorem three9 (s : ByteArray) (a b : Int) : ∀ u ∈ [Value.string s, Value.int .i64 a, Value.int .i64 b], u.oneCell' = true := by
  intro x hx; simp only [List.mem_cons, List.not_mem_nil, or_false] at hx; rcases hx with rfl | rfl | rfl <;> rfl
theorem own_type9 {w : World} {B sz n p : Nat} {e t : TypeId} {v : Value} {xs : List Value} {c : Array Value} (h : w.ownsRow B e sz v n xs) (hp : w.heap[p]? = some (.cells c t (0, 0))) (hne : e ≠ t) : v.ownBlock ≠ some p := by
  intro hv
  rcases h.2 with ⟨h0, _⟩ | ⟨g, cap, cur, h1, _, h3, _⟩
  · rw [h0] at hv; cases hv
  · rw [h1] at hv
    have e1 : g = p := by simpa [Value.ownBlock] using hv
    subst e1
    have h2 := Option.some.inj (hp.symm.trans h3)
    injection h2 with _ h4 _
    exact hne h4.symm
theorem RV.ofOwn9 {w : World} {B n c k : Nat} {a : Option Addr} {rs : List RG} (h : w.ownsRow B 32 3 (.slice a n c) n (rcells8 rs)) (hn : n = rs.length) (hk : k ≤ n) : RV w B (.slice a k c) (rs.take k) := by
  subst hn
  have hlk : (rs.take k).length = k := by rw [List.length_take]; omega
  rcases h.2 with ⟨h0, h1⟩ | ⟨g, cap, cur, h1, h2, h3, h4, h5⟩
  · have hr : rs = [] := List.length_eq_zero_iff.1 h1
    subst hr
    have h00 : k = 0 := by simpa using hk
    subst h00
    injection h0 with e1 e2 e3
    exact ⟨a, c, rfl, Nat.zero_le _, .inl (by simp)⟩
  · have hc := h.cells (g := g) (by rw [h1]; rfl)
    injection h1 with e1 e2 e3
    subst e1; subst e3
    refine ⟨_, c, by rw [hlk], by rw [hlk]; omega, .inr ⟨g, 0, rfl, h2, (Array.getElem?_eq_some_iff.1 h3).1, fun i t hi => ?_⟩⟩
    have hi2 : rs[i]? = some t := by
      rw [List.getElem?_take] at hi
      split at hi
      · exact hi
      · cases hi
    have hg := rcells8_get rs i t hi2
    have e : ∀ j, (⟨g, 0, Option.none⟩ : Addr).add j = ⟨g, j, Option.none⟩ := fun j => by simp [Addr.add]; omega
    have a := hc _ _ hg.1; have b := hc _ _ hg.2.1; have d := hc _ _ hg.2.2
    rw [e] at a b d
    exact ⟨by rw [Nat.zero_add]; exact a, by rw [Nat.zero_add]; exact b, by rw [Nat.zero_add]; exact d⟩
theorem Dw.grown8 {B : Nat} {a : Option Addr} {len cap b : Nat} {r : Option Nat} {A C : World} (d : Dw B a len cap b A) (hg : A.grownBy C r) (hr : ∀ k, r = some k → b < k) : Dw B a len cap b C := by
  have hb : Below (b + 1) A C := ⟨hg.os, hg.tape, hg.output, hg.size, fun k hk => hg.block k (Nat.lt_of_lt_of_le hk d.cur.lt) (fun e => by have := hr k e.symm; omega)⟩
  exact d.below8 hb (Nat.lt_succ_self _)
theorem Wr.grown8 {b : Nat} {r : Option Nat} {w A C : World} (h : Wr b w A) (hg : A.grownBy C r) (hr : ∀ k, r = some k → w.heap.size ≤ k) : Wr b w C :=
  ⟨hg.os.trans h.os, hg.tape.trans h.tape, hg.output.trans h.output, Nat.le_trans h.size hg.size, fun i hi hne => (hg.block i (Nat.lt_of_lt_of_le hi h.size) (fun e => by have := hr i e.symm; omega)).trans (h.block i hi hne)⟩
/-- Ranges of the first k names, in order, the right way round. -/
def Bx9 (k : Nat) (rs : List RG) : Prop := rs.length = k ∧ ∀ (j : Nat) (t : RG), rs[j]? = some t → nm3[j]? = some t.s ∧ -1 ≤ t.lo ∧ t.lo ≤ 3 ∧ t.lo ≤ t.hi ∧ t.hi ≤ t.lo + 4
theorem Bx9.snoc {k : Nat} {rs : List RG} {s : ByteArray} {lo hi : Int} (h : Bx9 k rs) (hs : nm3[k]? = some s) (h1 : -1 ≤ lo ∧ lo ≤ 3) (h2 : lo ≤ hi ∧ hi ≤ lo + 4) : Bx9 (k + 1) (rs ++ [⟨s, lo, hi⟩]) := by
  refine ⟨by rw [List.length_append, h.1]; rfl, fun j t ht => ?_⟩
  rcases Nat.lt_or_ge j rs.length with hj | hj
  · rw [List.getElem?_append_left hj] at ht; exact h.2 j t ht
  · rw [List.getElem?_append_right hj] at ht
    have hz : j - rs.length = 0 := by have := (List.getElem?_eq_some_iff.1 ht).1; simp at this; omega
    rw [hz] at ht
    simp only [List.getElem?_cons_zero, Option.some.injEq] at ht
    subst ht
    have hjk : j = k := by have := h.1; omega
    subst hjk
    exact ⟨hs, h1.1, h1.2, h2.1, h2.2⟩
/-- Ranges were drawn. -/
def DrawnR9 (p : List RG → Prop) (B : Nat) (a : Option Addr) (len cap b : Nat) (w : World) (e : Ending) (w' : World) : Prop :=
  ∃ (rs : List RG) (v : Value), e = .returned v ∧ p rs ∧ w'.ownsRow w.heap.size 32 3 v rs.length (rcells8 rs) ∧ Dw B a len cap b w' ∧ Wr b w w'
set_option maxHeartbeats 4000000 in
set_option maxRecDepth 100000 in
theorem l9Draw_is (B : Nat) (a : Option Addr) (len cap b : Nat) (w : World) (d : Dw B a len cap b w) :
    Calls Tryz.prog 27 #[.pointer (some ⟨b, 0, none⟩)] w (DrawnR9 (Bx9 3) B a len cap b w) := by
  obtain ⟨i0, hi0, hz0, hz1, hz2⟩ := info_parts infoIR9
  have hbz : b < w.heap.size := d.cur.lt
  have bz : Below w.heap.size w ((w.alloc (.cells #[] 32)).alloc (.cells #[.string ⟨#[105]⟩, .string ⟨#[106]⟩, .string ⟨#[107]⟩] 9)) := (alloc_below w _).alloc (by simp) _
  obtain ⟨q0, q1⟩ := heap2t w (.cells #[] 32) (.cells #[.string ⟨#[105]⟩, .string ⟨#[106]⟩, .string ⟨#[107]⟩] 9)
  have own0 : ((w.alloc (.cells #[] 32)).alloc (.cells #[.string ⟨#[105]⟩, .string ⟨#[106]⟩, .string ⟨#[107]⟩] 9)).ownsRow w.heap.size 32 3 (.slice (some ⟨w.heap.size, 0, Option.none⟩) 0 0) 0 (rcells8 []) := ⟨rfl, .inr ⟨w.heap.size, 0, #[], rfl, Nat.le_refl _, q0, Nat.le_refl _, (by unfold maxLen; omega), rfl, rfl⟩⟩
  have D0 := Lib.hid (d.later bz)
  have WR0 : Hid (Wr b w ((w.alloc (.cells #[] 32)).alloc (.cells #[.string ⟨#[105]⟩, .string ⟨#[106]⟩, .string ⟨#[107]⟩] 9))) := Wr.of_below bz
  have O0 := Lib.hid own0
  have N0 := Lib.hid q1
  clear d bz own0 q0 q1
  go_enter Tryz.func27, Tryz.ntmps27
  go_wp2
  go_loopw [3, 5] (fun v i wr => ∃ (k : Nat) (X : List RG), k ≤ 3 ∧ i = .int .i64 (k : Int) ∧ Hid (Bx9 k X) ∧ Hid (wr.ownsRow w.heap.size 32 3 v X.length (rcells8 X)) ∧ Hid (wr.heap[w.heap.size + 1]? = some (.cells #[.string ⟨#[105]⟩, .string ⟨#[106]⟩, .string ⟨#[107]⟩] 9)) ∧ Hid (Dw B a len cap b wr) ∧ Hid (Wr b w wr)) (fun _ i _ => 3 - (RowKit.intOf i).toNat)
  case atStart => exact ⟨0, [], by omega, rfl, ⟨rfl, fun j t h => by simp at h⟩, O0.out, N0.out, D0.out, WR0.out⟩
  case round =>
    obtain ⟨k, X, hk, rfl, HX, HOw, HN, HD, HW⟩ := hrel
    obtain ⟨oa, oc, rfl⟩ := ownShape HOw.out
    by_cases hlt : k < 3
    · have hltI : (k : Int) < 3 := by omega
      go_wp2_with fail
      refine (l1Below_is B a len cap b 5 _ HD.out (by omega)).mono ?_
      rintro e w5 ⟨x, rfl, ⟨x0, x1⟩, d5, wr5⟩
      obtain ⟨lo, hlo⟩ : ∃ lo, x - 1 = lo := ⟨_, rfl⟩
      have HLO : Hid (-1 ≤ lo ∧ lo ≤ 3) := show _ ∧ _ by omega
      have O5 := Lib.hid (own_w8 HOw.out wr5 (by omega))
      have N5 := Lib.hid (heap_w8 HN.out wr5 (by omega))
      have D5 := Lib.hid d5
      have W5 := Lib.hid (HW.out.trans wr5)
      obtain ⟨s, hs⟩ : ∃ s, nm3[k]? = some s := ⟨nm3[k]'(by simpa [nm3] using hlt), List.getElem?_eq_getElem _⟩
      have HS := Lib.hid hs
      have NC : Hid (∀ wx : World, wx.heap[w.heap.size + 1]? = some (.cells #[.string ⟨#[105]⟩, .string ⟨#[106]⟩, .string ⟨#[107]⟩] 9) → wx.cell? ⟨w.heap.size + 1, k, Option.none⟩ = some (.string s)) := show ∀ wx : World, _ → _ from by
        intro wx hx
        have : k = 0 ∨ k = 1 ∨ k = 2 := by omega
        rcases this with rfl | rfl | rfl <;> (simp only [nm3, List.getElem?_cons_zero, List.getElem?_cons_succ, Option.some.injEq] at hs; subst hs; simp [World.cell?, hx])
      clear d5 wr5 hs HOw HN HD HW
      go_wp2_with fail
      clear x0 x1 hlo
      have bd : Below w5.heap.size w5 w5.drew := (Below.refl _ w5).drew
      obtain ⟨w7, Wd⟩ : ∃ w7, Hid (w7 = w5.drew) := ⟨_, rfl⟩
      have hS : w7.heap[w.heap.size + 1]? = some (.cells #[.string ⟨#[105]⟩, .string ⟨#[106]⟩, .string ⟨#[107]⟩] 9) := by rw [Wd.out]; exact heap_b8 N5.out bd
      refine wp_region_last (fun w' => w'.heap[w.heap.size + 1]? = some (.cells #[.string ⟨#[105]⟩, .string ⟨#[106]⟩, .string ⟨#[107]⟩] 9)) 13 (by kernel_rfl) ?_
      rw [← Wd.out] at bd ⊢
      have O7 := Lib.hid (own_below8 O5.out bd)
      have D7 := Lib.hid (D5.out.later bd)
      have W7 := Lib.hid (W5.out.trans (.of_below bd))
      clear bd Wd O5 N5 D5 W5
      refine wpAnyL_take (i := 0) (v := .slice oa X.length oc) rfl (by kernel_rfl) (by kernel_rfl) (by kernel_rfl) (by kernel_rfl) (fun _ _ _ h => h) (Or.inl ⟨by rfl, ?yda0⟩) hS ?_
      case yda0 => intro w hSw; go_simp
      simp only [Act.put, List.getElem_toArray, List.getElem_cons_succ, List.getElem_cons_zero, List.setIfInBounds_toArray, List.set_cons_zero, List.set_cons_succ]
      refine wpAnyL_take (i := 1) (v := .slice (some ⟨w.heap.size + 1, 0, Option.none⟩) 3 3) rfl (by kernel_rfl) (by kernel_rfl) (by kernel_rfl) (by kernel_rfl) (fun _ _ _ h => h) (Or.inl ⟨by rfl, ?yda1⟩) hS ?_
      case yda1 => intro w hSw; go_simp
      simp only [Act.put, List.getElem_toArray, List.getElem_cons_succ, List.getElem_cons_zero, List.setIfInBounds_toArray, List.set_cons_zero, List.set_cons_succ]
      refine wpAnyL_take (i := 2) (v := .int .i64 (k : Int)) rfl (by kernel_rfl) (by kernel_rfl) (by kernel_rfl) (by kernel_rfl) (fun _ _ _ h => h) (Or.inl ⟨by rfl, ?yda2⟩) hS ?_
      case yda2 => intro w hSw; go_simp
      simp only [Act.put, List.getElem_toArray, List.getElem_cons_succ, List.getElem_cons_zero, List.setIfInBounds_toArray, List.set_cons_zero, List.set_cons_succ]
      refine wpAnyL_take (i := 3) (v := .pointer (some ⟨w.heap.size + 1, k, Option.none⟩)) rfl (by kernel_rfl) (by kernel_rfl) (by kernel_rfl) (by kernel_rfl) (fun _ _ _ h => h) (Or.inl ⟨by rfl, ?yda3⟩) hS ?_
      case yda3 => intro w hSw; go_simp
      simp only [Act.put, List.getElem_toArray, List.getElem_cons_succ, List.getElem_cons_zero, List.setIfInBounds_toArray, List.set_cons_zero, List.set_cons_succ]
      refine wpAnyL_take (i := 4) (v := .string s) rfl (by kernel_rfl) (by kernel_rfl) (by kernel_rfl) (by kernel_rfl) (fun _ _ _ h => h) (Or.inl ⟨by rfl, ?yda4⟩) hS ?_
      case yda4 => intro w hSw; have q := NC.out _ hSw; go_simp
      simp only [Act.put, List.getElem_toArray, List.getElem_cons_succ, List.getElem_cons_zero, List.setIfInBounds_toArray, List.set_cons_zero, List.set_cons_succ]
      refine wpAnyL_take (i := 5) (v := .int .i64 lo) rfl (by kernel_rfl) (by kernel_rfl) (by kernel_rfl) (by kernel_rfl) (fun _ _ _ h => h) (Or.inl ⟨by rfl, ?yda5⟩) hS ?_
      case yda5 => intro w hSw; go_simp
      simp only [Act.put, List.getElem_toArray, List.getElem_cons_succ, List.getElem_cons_zero, List.setIfInBounds_toArray, List.set_cons_zero, List.set_cons_succ]
      refine wpAnyL_take (i := 6) (v := .int .i64 lo) rfl (by kernel_rfl) (by kernel_rfl) (by kernel_rfl) (by kernel_rfl) (fun _ _ _ h => h) (Or.inl ⟨by rfl, ?yda6⟩) hS ?_
      case yda6 => intro w hSw; go_simp
      simp only [Act.put, List.getElem_toArray, List.getElem_cons_succ, List.getElem_cons_zero, List.setIfInBounds_toArray, List.set_cons_zero, List.set_cons_succ]
      refine wpAnyL_take (i := 7) (v := .pointer (some ⟨b, 0, Option.none⟩)) rfl (by kernel_rfl) (by kernel_rfl) (by kernel_rfl) (by kernel_rfl) (fun _ _ _ h => h) (Or.inl ⟨by rfl, ?yda7⟩) hS ?_
      case yda7 => intro w hSw; go_simp
      simp only [Act.put, List.getElem_toArray, List.getElem_cons_succ, List.getElem_cons_zero, List.setIfInBounds_toArray, List.set_cons_zero, List.set_cons_succ]
      refine wpAnyL_ready (rs := [8]) (by kernel_rfl) (by simp) ?_
      refine AllReadyL.cons rfl (fun K hK => ?_) AllReadyL.nil
      rw [if_pos (by rfl)]
      simp only [List.getElem_toArray, List.getElem_cons_succ, List.getElem_cons_zero]
      go_wp2_with fail
      refine (l1Below_is B a len cap b 5 _ D7.out (by omega)).mono ?_
      rintro e w8 ⟨y, rfl, ⟨y0, y1⟩, d8, wr8⟩
      obtain ⟨hi, hhi⟩ : ∃ hi, lo + y = hi := ⟨_, rfl⟩
      have hl0 := HLO.out.1
      have hl1 := HLO.out.2
      have HHI : Hid (lo ≤ hi ∧ hi ≤ lo + 4) := show _ ∧ _ by omega
      have O8 := Lib.hid (own_w8 O7.out wr8 (by omega))
      have D8 := Lib.hid d8
      have W8 := Lib.hid (W7.out.trans wr8)
      have hw8 := wr8
      clear d8 wr8 O7 D7 W7
      go_wp2_with fail
      have hS2 := heap_w8 hS hw8 (by omega)
      refine hK.out _ _ (fun _ => hS2) ?_
      clear hS hK
      have hS := hS2
      clear hS2
      clear hw8
      have hwh : IntKind.i64.wrap hi = hi := wrap8 (by have h1 := HLO.out; have h2 := HHI.out; omega) (by have h1 := HLO.out; have h2 := HHI.out; omega)
      refine wpAnyL_take (i := 9) (v := .int .i64 hi) rfl (by kernel_rfl) (by kernel_rfl) (by kernel_rfl) (by kernel_rfl) (fun _ _ _ h => h) (Or.inl ⟨by rfl, ?yda9⟩) hS ?_
      case yda9 => intro w hSw; go_simp
      simp only [Act.put, List.getElem_toArray, List.getElem_cons_succ, List.getElem_cons_zero, List.setIfInBounds_toArray, List.set_cons_zero, List.set_cons_succ]
      refine wpAnyL_take (i := 10) (v := .agg #[.string s, .int .i64 lo, .int .i64 hi]) rfl (by kernel_rfl) (by kernel_rfl) (by kernel_rfl) (by kernel_rfl) (fun _ _ _ h => h) (Or.inl ⟨by rfl, ?yda10⟩) hS ?_
      case yda10 => intro w hSw; go_simp
      simp only [Act.put, List.getElem_toArray, List.getElem_cons_succ, List.getElem_cons_zero, List.setIfInBounds_toArray, List.set_cons_zero, List.set_cons_succ]
      have NE := Lib.hid (own_type9 O8.out hS (by decide))
      have HV := Lib.hid O8.out.lt
      have hq5 : w.heap.size ≤ w8.heap.size := W8.out.size
      have HS0 := Lib.hid hS
      refine wpAnyL_ready (rs := [11]) (by kernel_rfl) (by simp) ?_
      refine AllReadyL.cons rfl (fun K hK => ?_) AllReadyL.nil
      rw [if_pos (by rfl)]
      simp only [List.getElem_toArray, List.getElem_cons_succ, List.getElem_cons_zero]
      go_wp2_with fail
      have hS2 := heap_b8 hS (alloc_below w8 (.cells #[.string s, .int .i64 lo, .int .i64 hi] 32))
      refine hK.out _ _ (fun _ => hS2) ?_
      clear hS hK
      have hS := hS2
      clear hS2
      refine wpAnyL_ready (rs := [12]) (by kernel_rfl) (by simp) ?_
      refine AllReadyL.cons rfl (fun K hK => ?_) AllReadyL.nil
      rw [if_pos (by rfl)]
      simp only [List.getElem_toArray, List.getElem_cons_succ, List.getElem_cons_zero]
      refine wp_append_own _ _ _ 27 (by rfl) w.heap.size 32 i0 _ 3 32 Tryz.underlying27 hi0 hz0 hz1 hz2 rfl (by decide) _ _ _ (by rfl) (O8.out.alloc _) ⟨w8.heap.size, 0, Option.none⟩ 1 1 [.string s, .int .i64 lo, .int .i64 hi] (by rfl) (by rfl) (newL9 w8 [.string s, .int .i64 lo, .int .i64 hi] _) (three9 _ _ _) (by have := HX.out.1; unfold maxLen; omega) (by have := HX.out.1; omega) (by simp; omega) ?_
      intro v' w9 hown9 hgrow9 _
      obtain ⟨a9, c9, rfl⟩ := ownShape hown9
      have F9 : Below w.heap.size w8 w9 := ((Below.refl _ w8).alloc hq5 _).grown hgrow9 (by simp; omega) (fun k hk => (HV.out k hk).1)
      have D9 := Lib.hid (D8.out.below8 F9 hbz)
      have W9 := Lib.hid (W8.out.below8 F9 (Nat.le_refl _))
      have hS2 := heap_g8 hS hgrow9 NE.out
      refine hK.out _ _ (fun _ => hS2) ?_
      clear hS hK
      have hS := hS2
      clear hS2
      have N9 := Lib.hid hS
      clear F9
      simp only [Act.put, List.getElem_toArray, List.getElem_cons_succ, List.getElem_cons_zero, List.setIfInBounds_toArray, List.set_cons_zero, List.set_cons_succ]
      refine wpAnyL_ready (rs := [13]) (by kernel_rfl) (by simp) ?_
      refine AllReadyL.cons rfl (fun K hK => ?_) AllReadyL.nil
      rw [if_pos (by rfl)]
      simp only [List.getElem_toArray, List.getElem_cons_succ, List.getElem_cons_zero]
      go_wp2_with fail
      refine hK.out _ _ (fun e => absurd rfl e) ?_
      clear hK hS
      refine wpAnyL_done (by kernel_rfl) ?_ _
      have HX9 := Lib.hid (HX.out.snoc HS.out HLO.out HHI.out)
      have O9 : Hid (w9.ownsRow w.heap.size 32 3 (.slice a9 (X.length + 1) c9) (X ++ [(⟨s, lo, hi⟩ : RG)]).length (rcells8 (X ++ [(⟨s, lo, hi⟩ : RG)]))) := by
        rw [List.length_append, rcells8_snoc]
        exact hown9
      clear hown9 hgrow9 y0 y1 hhi hl0 hl1
      go_wp2
      go_roundw
      case rel => exact ⟨k + 1, X ++ [(⟨s, lo, hi⟩ : RG)], by omega, by go_num, HX9.out, O9.out, N9.out, D9.out, W9.out⟩
      case measure => simp [RowKit.intOf]; omega
    · obtain rfl : k = 3 := by omega
      go_wp2
      go_ret
      exact ⟨X, _, rfl, HX.out, HOw.out, HD.out, HW.out⟩
end Go.Proofs.YtjdpddcnogdekaaGreat
/-
  The draws of chapter 9: l9Any.
-/
namespace Go.Proofs.YtjdpddcnogdekaaGreat
open Go.RowKit Go.Lib
set_option linter.unusedSimpArgs false
set_option linter.unusedVariables false

/-- What l9Any may draw. -/
def AnyR9 (rs : List RG) : Prop := rs.length ≤ 3 ∧ ∀ t ∈ rs, t.s.size ≤ 3 ∧ (-9223372036854775808 ≤ t.lo ∧ t.lo ≤ 9223372036854775807) ∧ (-9223372036854775808 ≤ t.hi ∧ t.hi ≤ 9223372036854775807)
theorem Bx9.any {rs : List RG} (h : Bx9 3 rs) : AnyR9 rs := by
  refine ⟨Nat.le_of_eq h.1, fun t ht => ?_⟩
  obtain ⟨j, hj, rfl⟩ := List.getElem_of_mem ht
  obtain ⟨h1, h2, h3, h4, h5⟩ := h.2 j _ (List.getElem?_eq_getElem hj)
  exact ⟨nm3_size h1, by omega, by omega⟩
theorem AnyR9.set {rs : List RG} {k : Nat} {t : RG} (h : AnyR9 rs) (ht : t.s.size ≤ 3 ∧ (-9223372036854775808 ≤ t.lo ∧ t.lo ≤ 9223372036854775807) ∧ (-9223372036854775808 ≤ t.hi ∧ t.hi ≤ 9223372036854775807)) : AnyR9 (rs.set k t) := by
  refine ⟨by rw [List.length_set]; exact h.1, fun u hu => ?_⟩
  rcases List.mem_or_eq_of_mem_set hu with hu | rfl
  · exact h.2 u hu
  · exact ht
theorem AnyR9.take {rs : List RG} (h : AnyR9 rs) (k : Nat) : AnyR9 (rs.take k) :=
  ⟨by have := h.1; rw [List.length_take]; omega, fun u hu => h.2 u (List.mem_of_mem_take hu)⟩
theorem rset9 : ∀ (rs : List RG) (k : Nat) (t : RG), rs[k]? = some t → ∀ u : RG,
    (u.s = t.s → u.hi = t.hi → (rcells8 rs).set (k * 3 + 1) (.int .i64 u.lo) = rcells8 (rs.set k u)) ∧ (u.s = t.s → u.lo = t.lo → (rcells8 rs).set (k * 3 + 2) (.int .i64 u.hi) = rcells8 (rs.set k u)) ∧ (u.lo = t.lo → u.hi = t.hi → (rcells8 rs).set (k * 3) (.string u.s) = rcells8 (rs.set k u))
  | [], k, t, h, u => by simp at h
  | r :: rs, 0, t, h, u => by
    simp only [List.getElem?_cons_zero, Option.some.injEq] at h
    subst h
    refine ⟨fun h1 h2 => ?_, fun h1 h2 => ?_, fun h1 h2 => ?_⟩ <;> simp [rcells8, h1, h2]
  | r :: rs, k + 1, t, h, u => by
    have ih := rset9 rs k t (by simpa using h) u
    have e1 : (k + 1) * 3 + 1 = k * 3 + 1 + 3 := by omega
    have e2 : (k + 1) * 3 + 2 = k * 3 + 2 + 3 := by omega
    have e3 : (k + 1) * 3 = k * 3 + 3 := by omega
    refine ⟨fun h1 h2 => ?_, fun h1 h2 => ?_, fun h1 h2 => ?_⟩
    · have := ih.1 h1 h2; rw [e1]; simp only [rcells8, List.set_cons_succ, this]
    · have := ih.2.1 h1 h2; rw [e2]; simp only [rcells8, List.set_cons_succ, this]
    · have := ih.2.2 h1 h2; rw [e3]; simp only [rcells8, List.set_cons_succ, this]
/-- Ranges were drawn, and lie there. -/
def DrawnV9 (B : Nat) (a : Option Addr) (len cap b : Nat) (w : World) (e : Ending) (w' : World) : Prop :=
  ∃ (rs : List RG) (v : Value), e = .returned v ∧ AnyR9 rs ∧ RV w' w.heap.size v rs ∧ Dw B a len cap b w' ∧ Wr b w w'
set_option maxHeartbeats 4000000 in
set_option maxRecDepth 100000 in
theorem l9Any_is (B : Nat) (a : Option Addr) (len cap b : Nat) (w : World) (d : Dw B a len cap b w) :
    Calls Tryz.prog 49 #[.pointer (some ⟨b, 0, none⟩)] w (DrawnV9 B a len cap b w) := by
  have hbz : b < w.heap.size := d.cur.lt
  have D0 := Lib.hid d
  clear d
  go_enter Tryz.func49, Tryz.ntmps49
  go_wp2_with fail
  refine (l9Draw_is B a len cap b _ D0.out).mono ?_
  rintro e w1 ⟨X, v, rfl, hp, own1, d1, wr1⟩
  obtain ⟨g, oc, rfl⟩ : ∃ g oc, v = .slice (some ⟨g, 0, Option.none⟩) X.length oc := by
    rcases own1.2 with ⟨_, h1⟩ | ⟨g, cap, cur, h1, _⟩
    · have := hp.1; omega
    · exact ⟨g, cap, h1⟩
  have hX3 : X.length = 3 := hp.1
  have HP := Lib.hid hp
  have HG : Hid (w.heap.size ≤ g) := (own1.lt g rfl).1
  have hcap : 3 ≤ oc := by obtain ⟨_, _, _, _, h⟩ := own_block own1; omega
  rw [hX3] at own1 ⊢
  have O1 := Lib.hid own1
  have D1 := Lib.hid d1
  have W1 := Lib.hid wr1
  clear own1 d1 wr1 hp D0
  go_wp2_with fail
  refine (l1Below_is B a len cap b 3 _ D1.out (by omega)).mono ?_
  rintro e w2 ⟨x, rfl, ⟨x0, x1⟩, d2, wr2⟩
  obtain ⟨k, rfl⟩ := Int.eq_ofNat_of_zero_le x0
  have hk : k < 3 := by omega
  have O2 := Lib.hid (own_w8 O1.out wr2 (by omega))
  have W2 := Lib.hid (W1.out.trans wr2)
  have D2 := Lib.hid d2
  clear d2 wr2 O1 W1 D1
  go_wp2_with fail
  refine (l1Below_is B a len cap b 12 _ D2.out (by omega)).mono ?_
  rintro e w3 ⟨y, rfl, ⟨y0, y1⟩, d3, wr3⟩
  have O3 := Lib.hid (own_w8 O2.out wr3 (by omega))
  have W3 := Lib.hid (W2.out.trans wr3)
  have D3 := Lib.hid d3
  clear d3 wr3 O2 W2 D2
  have hXk : k < X.length := by omega
  obtain ⟨t, ht⟩ : ∃ t, X[k]? = some t := ⟨X[k], List.getElem?_eq_getElem hXk⟩
  have HT := Lib.hid ht
  obtain ⟨t1, t2, t3, t4, t5⟩ := HP.out.2 k t ht
  have TB := Lib.hid (And.intro (nm3_size t1) (And.intro t2 (And.intro t3 (And.intro t4 t5))))
  have hget := rcells8_get X k t ht
  have hgb : b < g := Nat.lt_of_lt_of_le hbz HG.out
  have HGb : Hid (∀ j, some g = some j → b < j) := show ∀ j, _ → _ from fun j e => by injection e with e; omega
  have HGw : Hid (∀ j, some g = some j → w.heap.size ≤ j) := show ∀ j, _ → _ from fun j e => by injection e with e; have := HG.out; omega
  have HL : Hid (X.length = 3) := hX3
  clear ht t1 t2 t3 t4 t5 hX3 hXk x0 x1
  by_cases hy0 : y = 0
  · subst hy0
    clear y0 y1
    have hw1 : wrap64 (t.hi + 1) = t.hi + 1 := by rw [← IntWalk.i64_left]; exact wrap8 (by have := TB.out; omega) (by have := TB.out; omega)
    have hhb : -9223372036854775808 ≤ t.hi + 1 ∧ t.hi + 1 ≤ 9223372036854775807 := by have := TB.out; omega
    obtain ⟨c2, f2⟩ := cells_own8 O3.out hget.2.2
    obtain ⟨c1, f1⟩ := cells_own8 O3.out hget.2.1
    have gS : w3.grownBy (w3.setCell ⟨g, k * 3 + 1, Option.none⟩ (.int .i64 (t.hi + 1))) (some g) := grown_set8 (World.grownBy.refl _ _) _ _
    have o9 := own_set8 O3.out (j := k * 3 + 1) (.int .i64 (t.hi + 1))
    have hl9 : (X.set k ⟨t.s, t.hi + 1, t.hi⟩).length = 3 := by rw [List.length_set]; exact HL.out
    rw [show (rcells8 X).set (k * 3 + 1) (.int .i64 (t.hi + 1)) = rcells8 (X.set k ⟨t.s, t.hi + 1, t.hi⟩) from (rset9 X k t HT.out ⟨t.s, t.hi + 1, t.hi⟩).1 rfl rfl] at o9
    have R9 := Lib.hid (RV.ofOwn9 o9 hl9.symm (Nat.le_refl _))
    have D9 := Lib.hid (D3.out.grown8 gS HGb.out)
    have W9 := Lib.hid (W3.out.grown8 gS HGw.out)
    have e9 : Hid ((X.set k ⟨t.s, t.hi + 1, t.hi⟩).take 3 = X.set k ⟨t.s, t.hi + 1, t.hi⟩) := List.take_of_length_le (by omega)
    clear gS o9 hl9
    go_wp2
    go_ret
    exact ⟨X.set k ⟨t.s, t.hi + 1, t.hi⟩, _, rfl, HP.out.any.set ⟨TB.out.1, by have := TB.out; show -9223372036854775808 ≤ t.hi + 1 ∧ t.hi + 1 ≤ 9223372036854775807; omega, by have := TB.out; show -9223372036854775808 ≤ t.hi ∧ t.hi ≤ 9223372036854775807; omega⟩, by have := R9.out; rwa [e9.out] at this, D9.out, W9.out⟩
  have hy0b : (y == 0) = false := by simp [hy0]
  by_cases hy1 : y = 1
  · subst hy1
    clear y0 y1 hy0 
    have ba := alloc_below w3 (.cells #[.int .i64 10000, .int .i64 10001, .int .i64 300] 3)
    have hbw3 : b < w3.heap.size := D3.out.cur.lt
    go_wp2_with fail
    refine (l1Int_is B a len cap b w3.heap.size 3 3 (fun z => -10001 ≤ z ∧ z ≤ 10001) _ (D3.out.later ba) (by omega) (by omega) (by omega) (fun j hj => ints_cell w3 [10000, 10001, 300] _ (by decide) _ rfl j hj)).mono ?_
    rintro e w4 ⟨nn, rfl, hn, d4, wr4⟩
    have HNN := Lib.hid hn
    have wr34 : Wr b w3 w4 := (Wr.of_below ba).trans wr4
    have O4 := Lib.hid (own_w8 O3.out wr34 (by omega))
    have D4 := Lib.hid d4
    have W4 := Lib.hid (W3.out.trans wr34)
    obtain ⟨c1, f1⟩ := cells_own8 O4.out hget.2.2
    clear hn d4 wr4 wr34 ba O3 D3 W3
    have gS : w4.grownBy (w4.setCell ⟨g, k * 3 + 2, Option.none⟩ (.int .i64 nn)) (some g) := grown_set8 (World.grownBy.refl _ _) _ _
    have o9 := own_set8 O4.out (j := k * 3 + 2) (.int .i64 nn)
    have hl9 : (X.set k ⟨t.s, t.lo, nn⟩).length = 3 := by rw [List.length_set]; exact HL.out
    rw [show (rcells8 X).set (k * 3 + 2) (.int .i64 nn) = rcells8 (X.set k ⟨t.s, t.lo, nn⟩) from (rset9 X k t HT.out ⟨t.s, t.lo, nn⟩).2.1 rfl rfl] at o9
    have R9 := Lib.hid (RV.ofOwn9 o9 hl9.symm (Nat.le_refl _))
    have D9 := Lib.hid (D4.out.grown8 gS HGb.out)
    have W9 := Lib.hid (W4.out.grown8 gS HGw.out)
    have e9 : Hid ((X.set k ⟨t.s, t.lo, nn⟩).take 3 = X.set k ⟨t.s, t.lo, nn⟩) := List.take_of_length_le (by omega)
    clear gS o9 hl9
    go_wp2
    go_ret
    exact ⟨X.set k ⟨t.s, t.lo, nn⟩, _, rfl, HP.out.any.set ⟨TB.out.1, by have := TB.out; show -9223372036854775808 ≤ t.lo ∧ t.lo ≤ 9223372036854775807; omega, by have := HNN.out; show -9223372036854775808 ≤ nn ∧ nn ≤ 9223372036854775807; omega⟩, by have := R9.out; rwa [e9.out] at this, D9.out, W9.out⟩
  have hy1b : (y == 1) = false := by simp [hy1]
  by_cases hy2 : y = 2
  · subst hy2
    clear y0 y1 hy0 hy1
    have ba := alloc_below w3 (.cells #[.int .i64 (-10000), .int .i64 (-10001)] 3)
    have hbw3 : b < w3.heap.size := D3.out.cur.lt
    go_wp2_with fail
    refine (l1Int_is B a len cap b w3.heap.size 2 2 (fun z => -10001 ≤ z ∧ z ≤ 10001) _ (D3.out.later ba) (by omega) (by omega) (by omega) (fun j hj => ints_cell w3 [-10000, -10001] _ (by decide) _ rfl j hj)).mono ?_
    rintro e w4 ⟨nn, rfl, hn, d4, wr4⟩
    have HNN := Lib.hid hn
    have wr34 : Wr b w3 w4 := (Wr.of_below ba).trans wr4
    have O4 := Lib.hid (own_w8 O3.out wr34 (by omega))
    have D4 := Lib.hid d4
    have W4 := Lib.hid (W3.out.trans wr34)
    obtain ⟨c1, f1⟩ := cells_own8 O4.out hget.2.1
    clear hn d4 wr4 wr34 ba O3 D3 W3
    have gS : w4.grownBy (w4.setCell ⟨g, k * 3 + 1, Option.none⟩ (.int .i64 nn)) (some g) := grown_set8 (World.grownBy.refl _ _) _ _
    have o9 := own_set8 O4.out (j := k * 3 + 1) (.int .i64 nn)
    have hl9 : (X.set k ⟨t.s, nn, t.hi⟩).length = 3 := by rw [List.length_set]; exact HL.out
    rw [show (rcells8 X).set (k * 3 + 1) (.int .i64 nn) = rcells8 (X.set k ⟨t.s, nn, t.hi⟩) from (rset9 X k t HT.out ⟨t.s, nn, t.hi⟩).1 rfl rfl] at o9
    have R9 := Lib.hid (RV.ofOwn9 o9 hl9.symm (Nat.le_refl _))
    have D9 := Lib.hid (D4.out.grown8 gS HGb.out)
    have W9 := Lib.hid (W4.out.grown8 gS HGw.out)
    have e9 : Hid ((X.set k ⟨t.s, nn, t.hi⟩).take 3 = X.set k ⟨t.s, nn, t.hi⟩) := List.take_of_length_le (by omega)
    clear gS o9 hl9
    go_wp2
    go_ret
    exact ⟨X.set k ⟨t.s, nn, t.hi⟩, _, rfl, HP.out.any.set ⟨TB.out.1, by have := HNN.out; show -9223372036854775808 ≤ nn ∧ nn ≤ 9223372036854775807; omega, by have := TB.out; show -9223372036854775808 ≤ t.hi ∧ t.hi ≤ 9223372036854775807; omega⟩, by have := R9.out; rwa [e9.out] at this, D9.out, W9.out⟩
  have hy2b : (y == 2) = false := by simp [hy2]
  by_cases hy3 : y = 3
  · subst hy3
    clear y0 y1 hy0 hy1 hy2
    have ba := alloc_below w3 (.cells #[.string ⟨#[105]⟩, .string ⟨#[102, 111, 114]⟩, .string ⟨#[122]⟩] 9)
    have hbw3 : b < w3.heap.size := D3.out.cur.lt
    go_wp2_with fail
    refine (l1Str_is B a len cap b w3.heap.size 3 3 (fun z => z.size ≤ 3) _ (D3.out.later ba) (by omega) (by omega) (by omega) (fun j hj => strs_cell w3 [⟨#[105]⟩, ⟨#[102, 111, 114]⟩, ⟨#[122]⟩] _ (by decide) _ rfl j hj)).mono ?_
    rintro e w4 ⟨ss, rfl, hn, d4, wr4⟩
    have HNN := Lib.hid hn
    have wr34 : Wr b w3 w4 := (Wr.of_below ba).trans wr4
    have O4 := Lib.hid (own_w8 O3.out wr34 (by omega))
    have D4 := Lib.hid d4
    have W4 := Lib.hid (W3.out.trans wr34)
    obtain ⟨c1, f1⟩ := cells_own8 O4.out hget.1
    clear hn d4 wr4 wr34 ba O3 D3 W3
    have gS : w4.grownBy (w4.setCell ⟨g, k * 3, Option.none⟩ (.string ss)) (some g) := grown_set8 (World.grownBy.refl _ _) _ _
    have o9 := own_set8 O4.out (j := k * 3) (.string ss)
    have hl9 : (X.set k ⟨ss, t.lo, t.hi⟩).length = 3 := by rw [List.length_set]; exact HL.out
    rw [show (rcells8 X).set (k * 3) (.string ss) = rcells8 (X.set k ⟨ss, t.lo, t.hi⟩) from (rset9 X k t HT.out ⟨ss, t.lo, t.hi⟩).2.2 rfl rfl] at o9
    have R9 := Lib.hid (RV.ofOwn9 o9 hl9.symm (Nat.le_refl _))
    have D9 := Lib.hid (D4.out.grown8 gS HGb.out)
    have W9 := Lib.hid (W4.out.grown8 gS HGw.out)
    have e9 : Hid ((X.set k ⟨ss, t.lo, t.hi⟩).take 3 = X.set k ⟨ss, t.lo, t.hi⟩) := List.take_of_length_le (by omega)
    clear gS o9 hl9
    go_wp2
    go_ret
    exact ⟨X.set k ⟨ss, t.lo, t.hi⟩, _, rfl, HP.out.any.set ⟨HNN.out, by have := TB.out; show -9223372036854775808 ≤ t.lo ∧ t.lo ≤ 9223372036854775807; omega, by have := TB.out; show -9223372036854775808 ≤ t.hi ∧ t.hi ≤ 9223372036854775807; omega⟩, by have := R9.out; rwa [e9.out] at this, D9.out, W9.out⟩
  have hy3b : (y == 3) = false := by simp [hy3]
  have hkI : (k : Int) ≤ 3 := by omega
  by_cases hy4 : y = 4
  · subst hy4
    clear y0 y1 hy0 hy1 hy2 hy3
    have hkc : k ≤ oc := by omega
    have R9 := Lib.hid (RV.ofOwn9 (k := k) O3.out HL.out.symm (by omega))
    go_wp2
    go_ret
    exact ⟨X.take k, _, rfl, HP.out.any.take k, R9.out, D3.out, W3.out⟩
  have hy4b : (y == 4) = false := by simp [hy4]
  have R9 := Lib.hid (RV.ofOwn9 (k := 3) O3.out HL.out.symm (by omega))
  have e9 : Hid (X.take 3 = X) := List.take_of_length_le (by have := HL.out; omega)
  go_wp2
  go_ret
  exact ⟨X, _, rfl, HP.out.any, by have := R9.out; rwa [e9.out] at this, D3.out, W3.out⟩
end Go.Proofs.YtjdpddcnogdekaaGreat
