/-
  The contract of the landed code's expsFit: expressions ask arrays as arrays, and no array as a word.
-/
import Derived.Test.YtkilmefpaojkfaaGreatProgMap
import Derived.Test.YtkilmefpaojkfaaGreatAstPOpen
namespace Go.Proofs.YtkilmefpaojkfaaGreat
open Go.RowKit Go.Lib Go.Maps Go.Sort Go.WideMaps
set_option linter.unusedSimpArgs false
set_option linter.unusedVariables false

/-- Of one expression. -/
def eFitB (T : ByteArray → Int) (a : EN) : Bool := (!decide (a.1.k = 3) || decide (T a.1.s = 1)) && (!decide (a.1.k = 2) || !decide (T a.1.s = 1))
/-- A variable that holds a truth value. -/
abbrev BoolAt (w : World) (b : Nat) (x : Bool) : Prop := w.heap[b]? = some (.cells #[.bool x] 4 (0, 0))
theorem bool_set {w w1 : World} {fb : Nat} {x y : Bool} (hb : Below w.heap.size w w1) (h : BoolAt w fb x) : BoolAt (w1.setCell ⟨fb, 0, Option.none⟩ (.bool y)) fb y ∧ Gap fb (fb + 1) w (w1.setCell ⟨fb, 0, Option.none⟩ (.bool y)) := by
  have hlt := lt_heap h
  have h1 : w1.heap[fb]? = some (.cells #[.bool x] 4 (0, 0)) := (hb.block _ hlt).trans h
  have hlt1 := lt_heap h1
  have h' : w1.heap[fb] = .cells #[.bool x] 4 (0, 0) := by simpa [Array.getElem?_eq_getElem hlt1] using h1
  refine ⟨?_, hb.os, hb.tape, hb.output, by simpa using hb.size, fun k hk hc => ?_⟩
  · show (w1.heap.modify fb _)[fb]? = _
    rw [Array.getElem?_eq_getElem (by simpa using hlt1), Array.getElem_modify_self, h']
    rfl
  · rw [Below.heap_setCell _ _ _ _ (by show k ≠ fb; omega)]; exact hb.block k hk
theorem bool_cell {w w1 : World} {fb : Nat} {x : Bool} (hb : Below w.heap.size w w1) (h : BoolAt w fb x) : w1.cell? ⟨fb, 0, Option.none⟩ = some (.bool x) ∧ w1.frozen? ⟨fb, 0, Option.none⟩ = false := by
  have h1 : w1.heap[fb]? = some (.cells #[.bool x] 4 (0, 0)) := (hb.block _ (lt_heap h)).trans h
  simp [World.cell?, World.frozen?, h1]
set_option maxHeartbeats 2000000 in
set_option maxRecDepth 100000 in
theorem expFit1_is (x : X) (v : Value) (w : World) (nb fb tb ab n : Nat) (T : ByteArray → Int) (hnb : w.rangeAt nb 0 [.map (some tb), .map (some ab)]) (hR : Rd w tb n T) (y : Bool) (hf : BoolAt w fb y) (hs : x.h.s.size ≤ 10000000) :
    Calls Tryz.prog 90 #[.agg #[.int .i64 x.h.k, .int .i64 x.h.n, .string x.h.s, v], .pointer (some ⟨nb, 0, Option.none⟩), .pointer (some ⟨fb, 0, Option.none⟩)] w fun e w' => e = .returned (.tuple #[]) ∧ BoolAt w' fb (y && eFitB T (x.h, x.l)) ∧ Gap fb (fb + 1) w w' := by
  obtain ⟨h, l⟩ := x
  obtain ⟨kk, nn, s⟩ := h
  simp only at hs ⊢
  have B := Lib.hid (alloc_below w (.cells #[.int .i64 kk, .int .i64 nn, .string s, v] 55))
  have RG := Lib.hid (rangeAt_later hnb B.out)
  have n0 : (w.alloc (.cells #[.int .i64 kk, .int .i64 nn, .string s, v] 55)).cell? ⟨nb, 0, Option.none⟩ = some (.map (some tb)) := RG.out 0 _ rfl
  have n1 : (w.alloc (.cells #[.int .i64 kk, .int .i64 nn, .string s, v] 55)).cell? ⟨nb, 1, Option.none⟩ = some (.map (some ab)) := RG.out 1 _ rfl
  obtain ⟨b, Hb⟩ : ∃ b, Hid (decide (T s = 1) = b) := ⟨_, rfl⟩
  have CI := Lib.hid (isArr_is tb ab n T s hs b Hb.out _ (hR.below B.out))
  have HF := Lib.hid hf
  have HK : Hid (∀ w1, Below (w.alloc (.cells #[.int .i64 kk, .int .i64 nn, .string s, v] 55)).heap.size (w.alloc (.cells #[.int .i64 kk, .int .i64 nn, .string s, v] 55)) w1 → Below w.heap.size w w1) := Lib.hid (fun w1 h => below_alloc h)
  clear hnb hR hf
  by_cases h3 : kk = 3
  · have E : Hid (eFitB T ((⟨kk, nn, s⟩ : EH), l) = b) := Lib.hid (by unfold eFitB; simp only [h3]; rw [Hb.out]; simp)
    subst h3
    rw [E.out]
    go_enter Tryz.func90, Tryz.ntmps90
    go_wp2_with fail
    refine CI.out.mono ?_
    rintro e w1 ⟨rfl, hb1⟩
    have HB1 := Lib.hid (HK.out w1 hb1)
    obtain ⟨f0, f1⟩ := bool_cell HB1.out HF.out
    have c0 := box_cell (i := 0) hb1 rfl
    clear hb1 CI
    cases b with
    | false =>
      go_wp2
      go_end0
      exact ⟨rfl, by simpa using bool_set HB1.out HF.out⟩
    | true =>
      go_wp2
      go_end0
      exact ⟨rfl, by rw [Bool.and_true]; exact (HB1.out.block _ (lt_heap HF.out)).trans HF.out, Gap.of _ _ HB1.out⟩
  · by_cases h2 : kk = 2
    · have E : Hid (eFitB T ((⟨kk, nn, s⟩ : EH), l) = !b) := Lib.hid (by unfold eFitB; simp only [h2]; rw [Hb.out]; simp)
      subst h2
      rw [E.out]
      go_enter Tryz.func90, Tryz.ntmps90
      go_wp2_with fail
      refine CI.out.mono ?_
      rintro e w1 ⟨rfl, hb1⟩
      have HB1 := Lib.hid (HK.out w1 hb1)
      obtain ⟨f0, f1⟩ := bool_cell HB1.out HF.out
      clear hb1 CI
      cases b with
      | true =>
        go_wp2
        go_end0
        exact ⟨rfl, by simpa using bool_set HB1.out HF.out⟩
      | false =>
        go_wp2
        go_end0
        exact ⟨rfl, by rw [Bool.not_false, Bool.and_true]; exact (HB1.out.block _ (lt_heap HF.out)).trans HF.out, Gap.of _ _ HB1.out⟩
    · have E : Hid (eFitB T ((⟨kk, nn, s⟩ : EH), l) = true) := Lib.hid (by unfold eFitB; simp only [h2, h3]; simp)
      have e3 := int_ne h3
      have e2 := int_ne h2
      rw [E.out]
      go_enter Tryz.func90, Tryz.ntmps90
      go_wp2
      go_end0
      exact ⟨rfl, by rw [Bool.and_true]; exact (B.out.block _ (lt_heap HF.out)).trans HF.out, Gap.of _ _ B.out⟩
theorem perm_all {α : Type} {p : α → Bool} {l m : List α} (h : l.Perm m) : l.all p = m.all p := by
  rw [Bool.eq_iff_iff, List.all_eq_true, List.all_eq_true]
  exact ⟨fun g x hx => g x (h.symm.subset hx), fun g x hx => g x (h.subset hx)⟩
set_option maxHeartbeats 2000000 in
set_option maxRecDepth 100000 in
theorem expsFit_is (F : EF) (hF : enodes F ≤ 10000000) (hs : ∀ a ∈ enall F, a.1.s.size ≤ 10000000) (tb ab n : Nat) (T : ByteArray → Int) (w : World) (v : Value) (hv : EV w 0 F v) (hR : Rd w tb n T) :
    Calls Tryz.prog 63 #[nam tb ab, v] w fun e w' => e = .returned (.bool ((enall F).all (eFitB T))) ∧ Below w.heap.size w w' := by
  have hmf : ∀ (fn : Fn) (first cap : Array Value) (w : World), (Instr.makeFunc fn first cap).run Tryz.prog w = .ok (.func fn first cap) w := fun _ _ _ _ => rfl
  have B := Lib.hid ((alloc_below w (.cells #[.map (some tb), .map (some ab)] 68)).alloc (by simp) (.cells #[.bool true] 4))
  obtain ⟨W, HW⟩ : ∃ W, Hid (W = (w.alloc (.cells #[.map (some tb), .map (some ab)] 68)).alloc (.cells #[.bool true] 4)) := ⟨_, rfl⟩
  have hn : W.rangeAt w.heap.size 0 [.map (some tb), .map (some ab)] := by
    rw [HW.out]
    exact blk_range (arr := #[.map (some tb), .map (some ab)]) (by rw [Below.heap_alloc _ _ _ (by simp)]; exact heap_last _ _)
  have hf : BoolAt W (w.heap.size + 1) true := by
    rw [HW.out]
    have := heap_last (w.alloc (.cells #[.map (some tb), .map (some ab)] 68)) (.cells #[.bool true] 4); rwa [World.size_alloc] at this
  have hBW : Below w.heap.size w W := by rw [HW.out]; exact B.out
  have hsz : W.heap.size = w.heap.size + 2 := by rw [HW.out]; simp
  have VI : Hid (Calls Tryz.prog 31 #[v, .func (.func 33) #[] #[], .func (.func 90) #[] #[.pointer (some ⟨w.heap.size, 0, Option.none⟩), .pointer (some ⟨w.heap.size + 1, 0, Option.none⟩)]] W fun e w' => e = .returned (.tuple #[]) ∧ BoolAt w' (w.heap.size + 1) ((enall F).all (eFitB T)) ∧ Below w.heap.size w w') := by
    refine Lib.hid ((visitAllEK_is F hF w W (w.heap.size + 1) (w.heap.size + 2) (fun w' hgap a u hc => ?_) (by omega) v hv 90 (fun _ _ => rfl) #[.pointer (some ⟨w.heap.size, 0, Option.none⟩), .pointer (some ⟨w.heap.size + 1, 0, Option.none⟩)] (fun vs w1 => BoolAt w1 (w.heap.size + 1) (vs.all (eFitB T))) ?_ hf ?_).mono ?_)
    · have hlt := lt_of_cellA hc
      have h1 := keeps hBW hc
      have := hgap.block a.block (by omega) (.inl (by omega))
      unfold World.cell? at h1 ⊢; rw [this]; exact h1
    · intro vs w1 w2 h1 _ hk
      exact (hk _ (by omega) (by omega)).trans h1
    · intro vs eh el eu w1 hj1 _ _ hgap _ hm hln
      have hr1 : w1.rangeAt w.heap.size 0 [.map (some tb), .map (some ab)] := fun j u hj => by
        have h1 := hn j u hj
        have := hgap.block w.heap.size (by omega) (.inl (by omega))
        unfold World.cell? at h1 ⊢; simp only [this]; exact h1
      have hR1 : Rd w1 tb n T := (hR.below hBW).gap hgap (.inl (by have := hR.lt; omega))
      refine (expFit1_is ⟨eh, el⟩ eu w1 w.heap.size (w.heap.size + 1) tb ab n T hr1 hR1 _ hj1 (hs _ hm)).mono ?_
      rintro e w2 ⟨rfl, h1, h2⟩
      refine ⟨rfl, ?_, h2⟩
      show BoolAt w2 (w.heap.size + 1) ((vs ++ [(eh, el)]).all (eFitB T))
      rw [List.all_append, List.all_cons, List.all_nil, Bool.and_true]
      exact h1
    · rintro e w3 ⟨rfl, ⟨ws, k1, hp⟩, hgap⟩
      refine ⟨rfl, by rw [← perm_all hp]; exact k1, hBW.trans (hgap.below (by omega) (by omega))⟩
  rw [HW.out] at VI
  clear hn hf hBW hsz HW hR hs hv
  go_enter Tryz.func63, Tryz.ntmps63
  go_wp2_with fail
  refine VI.out.mono ?_
  rintro e w3 ⟨rfl, hb3, hbel⟩
  have f3 := (bool_cell (Below.refl _ _) hb3).1
  have HB := Lib.hid hbel
  clear hb3 hbel VI
  go_wp2
  go_ret
  exact ⟨rfl, HB.out⟩
end Go.Proofs.YtkilmefpaojkfaaGreat
