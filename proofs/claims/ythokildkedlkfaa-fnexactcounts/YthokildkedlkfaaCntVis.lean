/-
  The closure of the landed code's Counts, and Counts.
-/
import Derived.Test.YthokildkedlkfaaCntImpl
namespace Go.Proofs.Ythokildkedlkfaa
open Go.RowKit Go.Lib
set_option linter.unusedSimpArgs false
set_option linter.unusedVariables false

/-- The world without three of its blocks. -/
def cleared3 (w : World) (N : Nat) : World := { w with heap := ((w.heap.setIfInBounds N (.map #[] 0)).setIfInBounds (N + 1) (.map #[] 0)).setIfInBounds (N + 2) (.map #[] 0) }
theorem cleared3_heap (w : World) (N k : Nat) (h1 : k ≠ N) (h2 : k ≠ N + 1) (h3 : k ≠ N + 2) : (cleared3 w N).heap[k]? = w.heap[k]? := by
  show (((w.heap.setIfInBounds N (.map #[] 0)).setIfInBounds (N + 1) (.map #[] 0)).setIfInBounds (N + 2) (.map #[] 0))[k]? = _
  rw [Array.getElem?_setIfInBounds_ne (fun e => h3 e.symm), Array.getElem?_setIfInBounds_ne (fun e => h2 e.symm), Array.getElem?_setIfInBounds_ne (fun e => h1 e.symm)]
theorem cleared3_in {w : World} {N : Nat} {a : Addr} {v : Value} (h1 : a.block ≠ N) (h2 : a.block ≠ N + 1) (h3 : a.block ≠ N + 2) (h : w.cell? a = some v) : (cleared3 w N).cell? a = some v := by
  unfold World.cell? at h ⊢; rw [cleared3_heap w N _ h1 h2 h3]; exact h
theorem cleared3_out {w : World} {N : Nat} (hN : N + 3 ≤ w.heap.size) {a : Addr} {v : Value} (h : (cleared3 w N).cell? a = some v) : a.block ≠ N ∧ a.block ≠ N + 1 ∧ a.block ≠ N + 2 ∧ w.cell? a = some v := by
  have e2 : (cleared3 w N).heap[N + 2]? = some (.map #[] 0) := by
    show (((w.heap.setIfInBounds N (.map #[] 0)).setIfInBounds (N + 1) (.map #[] 0)).setIfInBounds (N + 2) (.map #[] 0))[N + 2]? = _
    rw [Array.getElem?_setIfInBounds_self_of_lt (by simp; omega)]
  have e1 : (cleared3 w N).heap[N + 1]? = some (.map #[] 0) := by
    show (((w.heap.setIfInBounds N (.map #[] 0)).setIfInBounds (N + 1) (.map #[] 0)).setIfInBounds (N + 2) (.map #[] 0))[N + 1]? = _
    rw [Array.getElem?_setIfInBounds_ne (by omega), Array.getElem?_setIfInBounds_self_of_lt (by simp; omega)]
  have e0 : (cleared3 w N).heap[N]? = some (.map #[] 0) := by
    show (((w.heap.setIfInBounds N (.map #[] 0)).setIfInBounds (N + 1) (.map #[] 0)).setIfInBounds (N + 2) (.map #[] 0))[N]? = _
    rw [Array.getElem?_setIfInBounds_ne (by omega), Array.getElem?_setIfInBounds_ne (by omega), Array.getElem?_setIfInBounds_self_of_lt (by omega)]
  have n0 : a.block ≠ N := fun e => by unfold World.cell? at h; rw [e, e0] at h; cases h
  have n1 : a.block ≠ N + 1 := fun e => by unfold World.cell? at h; rw [e, e1] at h; cases h
  have n2 : a.block ≠ N + 2 := fun e => by unfold World.cell? at h; rw [e, e2] at h; cases h
  refine ⟨n0, n1, n2, ?_⟩
  unfold World.cell? at h ⊢; rw [cleared3_heap w N _ n0 n1 n2] at h; exact h
theorem below_drewC {B : Nat} {w w' : World} (h : Below B w w') (n : Nat) : Below B w (w'.drewN n) := ⟨h.os, h.tape, h.output, h.size, h.block⟩
theorem pushAt (w : World) (o : Obj) {n : Nat} (h : n = w.heap.size) : (w.alloc o).heap[n]? = some o := by subst h; show (w.heap.push _)[w.heap.size]? = _; simp
/-- What the three variables hold when so many statements have been gone to. -/
def CS (N : Nat) (s : ByteArray) (vs : List SN) (w' : World) : Prop := TxtAt w' N s ∧ NumAt w' (N + 1) (vs.countP (hitS s) : Nat) ∧ NumAt w' (N + 2) ((vs.flatMap fun a => hall a.1).countP (hitA s) : Nat) ∧ (vs.flatMap fun a => hall a.1).length ≤ vs.length * 10000000
theorem CS.quiet (N : Nat) (s : ByteArray) : Quiet N (N + 3) (CS N s) := fun vs w1 w2 ⟨h1, h2, h3, h4⟩ _ hk => ⟨(hk _ (by omega) (by omega)).trans h1, (hk _ (by omega) (by omega)).trans h2, (hk _ (by omega) (by omega)).trans h3, h4⟩
def CJ (N : Nat) (s : ByteArray) (a b : Nat) (vs : List EN) (w' : World) : Prop := TxtAt w' N s ∧ NumAt w' (N + 1) (a : Int) ∧ NumAt w' (N + 2) ((b + vs.countP (hitA s) : Nat) : Int)
theorem CJ.quiet (N : Nat) (s : ByteArray) (a b : Nat) : Quiet N (N + 3) (CJ N s a b) := fun vs w1 w2 ⟨h1, h2, h3⟩ _ hk => ⟨(hk _ (by omega) (by omega)).trans h1, (hk _ (by omega) (by omega)).trans h2, (hk _ (by omega) (by omega)).trans h3⟩
theorem CJ.step (N : Nat) (s : ByteArray) (a b : Nat) (vs : List EN) (h : EH) (l : EF) (u : Value) (w : World) (hj : CJ N s a b vs w) (hl : b + vs.length < 1000000000000000) :
    Calls Try.prog 42 (#[.agg (xcells ⟨h, l⟩ u).toArray] ++ #[.pointer (some ⟨N, 0, Option.none⟩), .pointer (some ⟨N + 2, 0, Option.none⟩)]) w fun e w' => e = .returned (.tuple #[]) ∧ CJ N s a b (vs ++ [(h, l)]) w' ∧ Gap N (N + 3) w w' := by
  obtain ⟨h1, h2, h3⟩ := hj
  refine (cnt11_is ⟨h, l⟩ u s w N (N + 2) (b + vs.countP (hitA s)) h1 h3 (by have := List.countP_le_length (p := hitA s) (l := vs); omega)).mono ?_
  rintro e w' ⟨rfl, hn, hg⟩
  refine ⟨rfl, ⟨(hg.block _ (lt_of_block h1) (by omega)).trans h1, (hg.block _ (lt_of_block h2) (by omega)).trans h2, ?_⟩, hg.wider (by omega) (by omega)⟩
  have e1 : b + (vs ++ [(h, l)]).countP (hitA s) = (if hitA s (h, l) = true then 1 else 0) + (b + vs.countP (hitA s)) := by
    rw [List.countP_append, List.countP_cons, List.countP_nil]; omega
  rw [e1]; exact hn
set_option maxHeartbeats 2000000 in
set_option maxRecDepth 100000 in
theorem CS.step (N : Nat) (s : ByteArray) (vs : List SN) (hk0 : Int) (hs0 : ByteArray) (x1 x2 x3 x4 : X) (l : SF) (v1 v2 v3 v4 u : Value) (w : World) (hN : N + 3 ≤ w.heap.size) (hj : CS N s vs w) (hl : vs.length < 10000000) (hh : (hall ⟨hk0, hs0, x1, x2, x3, x4⟩).length ≤ 10000000)
    (w0 : World) (hw0 : w0.heap.size = N) (hb0 : Below w0.heap.size w0 w) (hv0 : HV w0 0 ⟨hk0, hs0, x1, x2, x3, x4⟩ v1 v2 v3 v4) :
    Calls Try.prog 38 #[sagg ⟨hk0, hs0, x1, x2, x3, x4⟩ v1 v2 v3 v4 u, .pointer (some ⟨N, 0, Option.none⟩), .pointer (some ⟨N + 1, 0, Option.none⟩), .pointer (some ⟨N + 2, 0, Option.none⟩)] w fun e w' => e = .returned (.tuple #[]) ∧ CS N s (vs ++ [(⟨hk0, hs0, x1, x2, x3, x4⟩, l)]) w' ∧ Gap N (N + 3) w w' := by
  have hmf : ∀ (fn : Fn) (first cap : Array Value) (w : World), (Instr.makeFunc fn first cap).run Try.prog w = .ok (.func fn first cap) w := fun _ _ _ _ => rfl
  obtain ⟨d1, d2, d3, d4⟩ := hj
  have s1 := hv0.e1.shape; have s2 := hv0.e2.shape; have s3 := hv0.e3.shape; have s4 := hv0.e4.shape
  have hs := True.intro
  have VI : ∀ (w2 : World) (g sn : Nat), Gap N (N + 3) w w2 → w.heap.size ≤ g → w2.rangeAt g 0 (fcells ⟨hk0, hs0, x1, x2, x3, x4⟩ v1 v2 v3 v4) → TxtAt w2 N s → NumAt w2 (N + 1) (sn : Int) → NumAt w2 (N + 2) ((vs.flatMap fun a => hall a.1).countP (hitA s) : Nat) → sn = (vs ++ [((⟨hk0, hs0, x1, x2, x3, x4⟩ : SH), l)]).countP (hitS s) →
      Calls Try.prog 39 #[.slice (some ⟨g, 0, Option.none⟩) 4 4, .func (.func 41) #[] #[], .func (.func 42) #[] #[.pointer (some ⟨N, 0, Option.none⟩), .pointer (some ⟨N + 2, 0, Option.none⟩)]] w2 fun e w' => e = .returned (.tuple #[]) ∧ CS N s (vs ++ [(⟨hk0, hs0, x1, x2, x3, x4⟩, l)]) w' ∧ Gap N (N + 3) w w' := by
    intro w2 g sn hb2 hg hr t2 m2 k2 hsn
    have hs2 := hb2.size
    have hlow : ∀ (a : Addr) v, w0.cell? a = some v → (cleared3 w2 N).cell? a = some v := fun a v hc => by
      have hlt := lt_of_cellA hc
      refine cleared3_in (by omega) (by omega) (by omega) ?_
      have h1 := keeps hb0 hc
      have := hb2.block a.block (lt_of_cellA h1) (by omega)
      unfold World.cell? at h1 ⊢; rw [this]; exact h1
    have hrc : (cleared3 w2 N).rangeAt g 0 (fcells ⟨hk0, hs0, x1, x2, x3, x4⟩ v1 v2 v3 v4) := fun j v hv => cleared3_in (by show g ≠ N; omega) (by show g ≠ N + 1; omega) (by show g ≠ N + 2; omega) (hr j v hv)
    have hv2 : HV (cleared3 w2 N) 0 ⟨hk0, hs0, x1, x2, x3, x4⟩ v1 v2 v3 v4 := ⟨hv0.e1.same (Nat.le_refl _) (fun a v _ hc => hlow a v hc), hv0.e2.same (Nat.le_refl _) (fun a v _ hc => hlow a v hc), hv0.e3.same (Nat.le_refl _) (fun a v _ hc => hlow a v hc), hv0.e4.same (Nat.le_refl _) (fun a v _ hc => hlow a v hc)⟩
    refine (visitAllEK_is (four ⟨hk0, hs0, x1, x2, x3, x4⟩) (by rw [four_nodes]; omega) (cleared3 w2 N) w2 N (N + 3) (fun w' hgap a v hc => ?_) (by omega) _ (laid_four hv2 hrc) 42 (fun _ _ => rfl) #[.pointer (some ⟨N, 0, Option.none⟩), .pointer (some ⟨N + 2, 0, Option.none⟩)] (CJ N s sn ((vs.flatMap fun a => hall a.1).countP (hitA s))) (CJ.quiet _ _ _ _) ?_ ?_).mono ?_
    · obtain ⟨n0, n1, n2, hc2⟩ := cleared3_out (by omega) hc
      have := hgap.block a.block (lt_of_cellA hc2) (by omega)
      unfold World.cell? at hc2 ⊢; rw [this]; exact hc2
    · exact ⟨t2, m2, by simpa using k2⟩
    · intro ws eh el eu w1 hj1 _ _ _ _ hm hln
      rw [four_nodes] at hln
      exact CJ.step N s sn _ ws eh el eu w1 hj1 (by have := List.countP_le_length (p := hitA s) (l := vs.flatMap fun a => hall a.1); omega)
    · rintro e w3 ⟨rfl, ⟨ws, ⟨k1, k2, k3⟩, hp⟩, hgap⟩
      refine ⟨rfl, ⟨k1, by rw [← hsn]; exact k2, ?_, by rw [List.flatMap_append, List.length_append, List.length_append]; simp only [List.flatMap_cons, List.flatMap_nil, List.append_nil, List.length_cons, List.length_nil]; omega⟩, hb2.trans hgap⟩
      have : ((vs ++ [((⟨hk0, hs0, x1, x2, x3, x4⟩ : SH), l)]).flatMap fun a => hall a.1).countP (hitA s) = (vs.flatMap fun a => hall a.1).countP (hitA s) + ws.countP (hitA s) := by
        rw [List.flatMap_append, List.countP_append, hp.countP_eq, four_all]; simp
      rw [this]; exact k3
  by_cases hk : hk0 = 1
  · subst hk
    by_cases hse : hs0 = s
    · subst hse
      have hB := alloc_below w (.cells (sarr ⟨1, hs0, x1, x2, x3, x4⟩ v1 v2 v3 v4 u) 29)
      have hbx0 : (w.alloc (.cells (sarr ⟨1, hs0, x1, x2, x3, x4⟩ v1 v2 v3 v4 u) 29)).heap[w.heap.size]? = some (.cells (sarr ⟨1, hs0, x1, x2, x3, x4⟩ v1 v2 v3 v4 u) 29) := by show (w.heap.push _)[w.heap.size]? = _; simp
      have hr0 := blk_range (arr := sarr ⟨1, hs0, x1, x2, x3, x4⟩ v1 v2 v3 v4 u) (t := 29) (fr := (0, 0)) hbx0
      have k0 : (w.alloc (.cells (sarr ⟨1, hs0, x1, x2, x3, x4⟩ v1 v2 v3 v4 u) 29)).cell? ⟨w.heap.size, 0, Option.none⟩ = some (.int .i64 1) := hr0 0 _ rfl
      have k1 : (w.alloc (.cells (sarr ⟨1, hs0, x1, x2, x3, x4⟩ v1 v2 v3 v4 u) 29)).cell? ⟨w.heap.size, 1, Option.none⟩ = some (.string hs0) := hr0 1 _ rfl
      have c0 := cell_of_one (txt_later d1 hB)
      have c1 := cell_of_one (num_later d2 hB)
      have c2 := free_of_one (num_later d2 hB)
      have hGS := gap_set (d := ((vs.countP (hitS hs0) : Nat) : Int) + 1) hB (num_later d2 hB) (by omega)
      have hG1 : Gap N (N + 3) w ((w.alloc (.cells (sarr ⟨1, hs0, x1, x2, x3, x4⟩ v1 v2 v3 v4 u) 29)).setCell ⟨N + 1, 0, Option.none⟩ (.int .i64 (((vs.countP (hitS hs0) : Nat) : Int) + 1))) := hGS.2.wider (by omega) (by omega)
      have hT1 : TxtAt ((w.alloc (.cells (sarr ⟨1, hs0, x1, x2, x3, x4⟩ v1 v2 v3 v4 u) 29)).setCell ⟨N + 1, 0, Option.none⟩ (.int .i64 (((vs.countP (hitS hs0) : Nat) : Int) + 1))) N hs0 := (hGS.2.block _ (lt_of_block d1) (by omega)).trans d1
      have hN1 : NumAt ((w.alloc (.cells (sarr ⟨1, hs0, x1, x2, x3, x4⟩ v1 v2 v3 v4 u) 29)).setCell ⟨N + 1, 0, Option.none⟩ (.int .i64 (((vs.countP (hitS hs0) : Nat) : Int) + 1))) (N + 1) ((vs.countP (hitS hs0) + 1 : Nat) : Int) := hGS.1
      have hN2 : NumAt ((w.alloc (.cells (sarr ⟨1, hs0, x1, x2, x3, x4⟩ v1 v2 v3 v4 u) 29)).setCell ⟨N + 1, 0, Option.none⟩ (.int .i64 (((vs.countP (hitS hs0) : Nat) : Int) + 1))) (N + 2) ((vs.flatMap fun a => hall a.1).countP (hitA hs0) : Nat) := (hGS.2.block _ (lt_of_block d3) (by omega)).trans d3
      have RG : Hid (((w.alloc (.cells (sarr ⟨1, hs0, x1, x2, x3, x4⟩ v1 v2 v3 v4 u) 29)).setCell ⟨N + 1, 0, Option.none⟩ (.int .i64 (((vs.countP (hitS hs0) : Nat) : Int) + 1))).rangeAt w.heap.size 0 (scells ⟨1, hs0, x1, x2, x3, x4⟩ v1 v2 v3 v4 u)) := blk_range (w := ((w.alloc (.cells (sarr ⟨1, hs0, x1, x2, x3, x4⟩ v1 v2 v3 v4 u) 29)).setCell ⟨N + 1, 0, Option.none⟩ (.int .i64 (((vs.countP (hitS hs0) : Nat) : Int) + 1)))) (b := w.heap.size) (arr := sarr ⟨1, hs0, x1, x2, x3, x4⟩ v1 v2 v3 v4 u) (t := 29) (fr := (0, 0)) ((Below.heap_setCell _ _ _ _ (show w.heap.size ≠ N + 1 by omega)).trans hbx0)
      have hcnt : (vs ++ [((⟨1, hs0, x1, x2, x3, x4⟩ : SH), l)]).countP (hitS hs0) = vs.countP (hitS hs0) + 1 := by rw [List.countP_append]; simp [hitS]
      have hsI : ((vs.countP (hitS hs0) : Nat) : Int) + 1 ≤ 20000000 := by have := List.countP_le_length (p := hitS hs0) (l := vs); omega
      have EX := Lib.hid (expsOf_is ⟨1, hs0, x1, x2, x3, x4⟩ v1 v2 v3 v4 u ((w.alloc (.cells (sarr ⟨1, hs0, x1, x2, x3, x4⟩ v1 v2 v3 v4 u) 29)).setCell ⟨N + 1, 0, Option.none⟩ (.int .i64 (((vs.countP (hitS hs0) : Nat) : Int) + 1))) (by obtain ⟨a, c, e⟩ := s1; exact ⟨a, _, c, e⟩) (by obtain ⟨a, c, e⟩ := s2; exact ⟨a, _, c, e⟩) (by obtain ⟨a, c, e⟩ := s3; exact ⟨a, _, c, e⟩) (by obtain ⟨a, c, e⟩ := s4; exact ⟨a, _, c, e⟩))
      have VJ := Lib.hid (fun (w2 : World) (g : Nat) (hb2 : Below ((w.alloc (.cells (sarr ⟨1, hs0, x1, x2, x3, x4⟩ v1 v2 v3 v4 u) 29)).setCell ⟨N + 1, 0, Option.none⟩ (.int .i64 (((vs.countP (hitS hs0) : Nat) : Int) + 1))).heap.size ((w.alloc (.cells (sarr ⟨1, hs0, x1, x2, x3, x4⟩ v1 v2 v3 v4 u) 29)).setCell ⟨N + 1, 0, Option.none⟩ (.int .i64 (((vs.countP (hitS hs0) : Nat) : Int) + 1))) w2) (hg : ((w.alloc (.cells (sarr ⟨1, hs0, x1, x2, x3, x4⟩ v1 v2 v3 v4 u) 29)).setCell ⟨N + 1, 0, Option.none⟩ (.int .i64 (((vs.countP (hitS hs0) : Nat) : Int) + 1))).heap.size ≤ g) (hr : w2.rangeAt g 0 (fcells ⟨1, hs0, x1, x2, x3, x4⟩ v1 v2 v3 v4)) => VI w2 g (vs.countP (hitS hs0) + 1) (hG1.trans (Gap.of _ _ hb2)) (Nat.le_trans hG1.size hg) hr (txt_later hT1 hb2) (num_later hN1 hb2) (num_later hN2 hb2) hcnt.symm)
      have HG := Lib.hid hG1
      have hs3 : w.heap.size ≤ ((w.alloc (.cells (sarr ⟨1, hs0, x1, x2, x3, x4⟩ v1 v2 v3 v4 u) 29)).setCell ⟨N + 1, 0, Option.none⟩ (.int .i64 (((vs.countP (hitS hs0) : Nat) : Int) + 1))).heap.size := hG1.size
      clear VI d1 d2 d3 d4 s1 s2 s3 s4 hB hbx0 hr0 hT1 hN1 hN2 hcnt hG1 hb0 hv0 hs hh hGS
      go_enter Try.func38, Try.ntmps38
      go_wp2_with (refine wpList_load_mid rfl 29 _ rfl w.heap.size 0 rfl _ _ RG.out Try.underlying29 rfl sizeIS ?_)
      refine EX.out.mono ?_
      rintro e w2 ⟨g, rfl, hr, hg, hb2⟩
      have B2 := Lib.hid (And.intro hb2 (And.intro hg hr))
      clear hr hg hb2
      go_wp2_with fail
      refine (VJ.out w2 g B2.out.1 B2.out.2.1 B2.out.2.2).mono ?_
      rintro e w3 ⟨rfl, ha, hgp⟩
      have R := Lib.hid (And.intro ha hgp)
      clear ha hgp
      go_wp2
      go_end0
      exact ⟨rfl, R.out.1, R.out.2⟩
    · have hsb := str_ne hse
      have hB := alloc_below w (.cells (sarr ⟨1, hs0, x1, x2, x3, x4⟩ v1 v2 v3 v4 u) 29)
      have hbx0 : (w.alloc (.cells (sarr ⟨1, hs0, x1, x2, x3, x4⟩ v1 v2 v3 v4 u) 29)).heap[w.heap.size]? = some (.cells (sarr ⟨1, hs0, x1, x2, x3, x4⟩ v1 v2 v3 v4 u) 29) := by show (w.heap.push _)[w.heap.size]? = _; simp
      have hr0 := blk_range (arr := sarr ⟨1, hs0, x1, x2, x3, x4⟩ v1 v2 v3 v4 u) (t := 29) (fr := (0, 0)) hbx0
      have k0 : (w.alloc (.cells (sarr ⟨1, hs0, x1, x2, x3, x4⟩ v1 v2 v3 v4 u) 29)).cell? ⟨w.heap.size, 0, Option.none⟩ = some (.int .i64 1) := hr0 0 _ rfl
      have k1 : (w.alloc (.cells (sarr ⟨1, hs0, x1, x2, x3, x4⟩ v1 v2 v3 v4 u) 29)).cell? ⟨w.heap.size, 1, Option.none⟩ = some (.string hs0) := hr0 1 _ rfl
      have c0 := cell_of_one (txt_later d1 hB)
      have hG1 : Gap N (N + 3) w (w.alloc (.cells (sarr ⟨1, hs0, x1, x2, x3, x4⟩ v1 v2 v3 v4 u) 29)) := Gap.of _ _ hB
      have hT1 : TxtAt (w.alloc (.cells (sarr ⟨1, hs0, x1, x2, x3, x4⟩ v1 v2 v3 v4 u) 29)) N s := txt_later d1 hB
      have hN1 : NumAt (w.alloc (.cells (sarr ⟨1, hs0, x1, x2, x3, x4⟩ v1 v2 v3 v4 u) 29)) (N + 1) (vs.countP (hitS s) : Nat) := num_later d2 hB
      have hN2 : NumAt (w.alloc (.cells (sarr ⟨1, hs0, x1, x2, x3, x4⟩ v1 v2 v3 v4 u) 29)) (N + 2) ((vs.flatMap fun a => hall a.1).countP (hitA s) : Nat) := num_later d3 hB
      have RG : Hid ((w.alloc (.cells (sarr ⟨1, hs0, x1, x2, x3, x4⟩ v1 v2 v3 v4 u) 29)).rangeAt w.heap.size 0 (scells ⟨1, hs0, x1, x2, x3, x4⟩ v1 v2 v3 v4 u)) := hr0
      have hcnt : (vs ++ [((⟨1, hs0, x1, x2, x3, x4⟩ : SH), l)]).countP (hitS s) = vs.countP (hitS s) := by rw [List.countP_append]; simp [hitS, hse]
      have EX := Lib.hid (expsOf_is ⟨1, hs0, x1, x2, x3, x4⟩ v1 v2 v3 v4 u (w.alloc (.cells (sarr ⟨1, hs0, x1, x2, x3, x4⟩ v1 v2 v3 v4 u) 29)) (by obtain ⟨a, c, e⟩ := s1; exact ⟨a, _, c, e⟩) (by obtain ⟨a, c, e⟩ := s2; exact ⟨a, _, c, e⟩) (by obtain ⟨a, c, e⟩ := s3; exact ⟨a, _, c, e⟩) (by obtain ⟨a, c, e⟩ := s4; exact ⟨a, _, c, e⟩))
      have VJ := Lib.hid (fun (w2 : World) (g : Nat) (hb2 : Below (w.alloc (.cells (sarr ⟨1, hs0, x1, x2, x3, x4⟩ v1 v2 v3 v4 u) 29)).heap.size (w.alloc (.cells (sarr ⟨1, hs0, x1, x2, x3, x4⟩ v1 v2 v3 v4 u) 29)) w2) (hg : (w.alloc (.cells (sarr ⟨1, hs0, x1, x2, x3, x4⟩ v1 v2 v3 v4 u) 29)).heap.size ≤ g) (hr : w2.rangeAt g 0 (fcells ⟨1, hs0, x1, x2, x3, x4⟩ v1 v2 v3 v4)) => VI w2 g (vs.countP (hitS s)) (hG1.trans (Gap.of _ _ hb2)) (Nat.le_trans hG1.size hg) hr (txt_later hT1 hb2) (num_later hN1 hb2) (num_later hN2 hb2) hcnt.symm)
      have HG := Lib.hid hG1
      have hs3 : w.heap.size ≤ (w.alloc (.cells (sarr ⟨1, hs0, x1, x2, x3, x4⟩ v1 v2 v3 v4 u) 29)).heap.size := hG1.size
      clear VI d1 d2 d3 d4 s1 s2 s3 s4 hB hbx0 hr0 hT1 hN1 hN2 hcnt hG1 hb0 hv0 hs hh 
      go_enter Try.func38, Try.ntmps38
      go_wp2_with (refine wpList_load_mid rfl 29 _ rfl w.heap.size 0 rfl _ _ RG.out Try.underlying29 rfl sizeIS ?_)
      refine EX.out.mono ?_
      rintro e w2 ⟨g, rfl, hr, hg, hb2⟩
      have B2 := Lib.hid (And.intro hb2 (And.intro hg hr))
      clear hr hg hb2
      go_wp2_with fail
      refine (VJ.out w2 g B2.out.1 B2.out.2.1 B2.out.2.2).mono ?_
      rintro e w3 ⟨rfl, ha, hgp⟩
      have R := Lib.hid (And.intro ha hgp)
      clear ha hgp
      go_wp2
      go_end0
      exact ⟨rfl, R.out.1, R.out.2⟩
  · have hkb := int_ne hk
    have hB := alloc_below w (.cells (sarr ⟨hk0, hs0, x1, x2, x3, x4⟩ v1 v2 v3 v4 u) 29)
    have hbx0 : (w.alloc (.cells (sarr ⟨hk0, hs0, x1, x2, x3, x4⟩ v1 v2 v3 v4 u) 29)).heap[w.heap.size]? = some (.cells (sarr ⟨hk0, hs0, x1, x2, x3, x4⟩ v1 v2 v3 v4 u) 29) := by show (w.heap.push _)[w.heap.size]? = _; simp
    have hr0 := blk_range (arr := sarr ⟨hk0, hs0, x1, x2, x3, x4⟩ v1 v2 v3 v4 u) (t := 29) (fr := (0, 0)) hbx0
    have k0 : (w.alloc (.cells (sarr ⟨hk0, hs0, x1, x2, x3, x4⟩ v1 v2 v3 v4 u) 29)).cell? ⟨w.heap.size, 0, Option.none⟩ = some (.int .i64 hk0) := hr0 0 _ rfl
    have k1 : (w.alloc (.cells (sarr ⟨hk0, hs0, x1, x2, x3, x4⟩ v1 v2 v3 v4 u) 29)).cell? ⟨w.heap.size, 1, Option.none⟩ = some (.string hs0) := hr0 1 _ rfl
    have c0 := cell_of_one (txt_later d1 hB)
    have hG1 : Gap N (N + 3) w (w.alloc (.cells (sarr ⟨hk0, hs0, x1, x2, x3, x4⟩ v1 v2 v3 v4 u) 29)) := Gap.of _ _ hB
    have hT1 : TxtAt (w.alloc (.cells (sarr ⟨hk0, hs0, x1, x2, x3, x4⟩ v1 v2 v3 v4 u) 29)) N s := txt_later d1 hB
    have hN1 : NumAt (w.alloc (.cells (sarr ⟨hk0, hs0, x1, x2, x3, x4⟩ v1 v2 v3 v4 u) 29)) (N + 1) (vs.countP (hitS s) : Nat) := num_later d2 hB
    have hN2 : NumAt (w.alloc (.cells (sarr ⟨hk0, hs0, x1, x2, x3, x4⟩ v1 v2 v3 v4 u) 29)) (N + 2) ((vs.flatMap fun a => hall a.1).countP (hitA s) : Nat) := num_later d3 hB
    have RG : Hid ((w.alloc (.cells (sarr ⟨hk0, hs0, x1, x2, x3, x4⟩ v1 v2 v3 v4 u) 29)).rangeAt w.heap.size 0 (scells ⟨hk0, hs0, x1, x2, x3, x4⟩ v1 v2 v3 v4 u)) := hr0
    have hcnt : (vs ++ [((⟨hk0, hs0, x1, x2, x3, x4⟩ : SH), l)]).countP (hitS s) = vs.countP (hitS s) := by rw [List.countP_append]; simp [hitS, hk]
    have EX := Lib.hid (expsOf_is ⟨hk0, hs0, x1, x2, x3, x4⟩ v1 v2 v3 v4 u (w.alloc (.cells (sarr ⟨hk0, hs0, x1, x2, x3, x4⟩ v1 v2 v3 v4 u) 29)) (by obtain ⟨a, c, e⟩ := s1; exact ⟨a, _, c, e⟩) (by obtain ⟨a, c, e⟩ := s2; exact ⟨a, _, c, e⟩) (by obtain ⟨a, c, e⟩ := s3; exact ⟨a, _, c, e⟩) (by obtain ⟨a, c, e⟩ := s4; exact ⟨a, _, c, e⟩))
    have VJ := Lib.hid (fun (w2 : World) (g : Nat) (hb2 : Below (w.alloc (.cells (sarr ⟨hk0, hs0, x1, x2, x3, x4⟩ v1 v2 v3 v4 u) 29)).heap.size (w.alloc (.cells (sarr ⟨hk0, hs0, x1, x2, x3, x4⟩ v1 v2 v3 v4 u) 29)) w2) (hg : (w.alloc (.cells (sarr ⟨hk0, hs0, x1, x2, x3, x4⟩ v1 v2 v3 v4 u) 29)).heap.size ≤ g) (hr : w2.rangeAt g 0 (fcells ⟨hk0, hs0, x1, x2, x3, x4⟩ v1 v2 v3 v4)) => VI w2 g (vs.countP (hitS s)) (hG1.trans (Gap.of _ _ hb2)) (Nat.le_trans hG1.size hg) hr (txt_later hT1 hb2) (num_later hN1 hb2) (num_later hN2 hb2) hcnt.symm)
    have HG := Lib.hid hG1
    have hs3 : w.heap.size ≤ (w.alloc (.cells (sarr ⟨hk0, hs0, x1, x2, x3, x4⟩ v1 v2 v3 v4 u) 29)).heap.size := hG1.size
    clear VI d1 d2 d3 d4 s1 s2 s3 s4 hB hbx0 hr0 hT1 hN1 hN2 hcnt hG1 hb0 hv0 hs hh 
    go_enter Try.func38, Try.ntmps38
    go_wp2_with (refine wpList_load_mid rfl 29 _ rfl w.heap.size 0 rfl _ _ RG.out Try.underlying29 rfl sizeIS ?_)
    refine EX.out.mono ?_
    rintro e w2 ⟨g, rfl, hr, hg, hb2⟩
    have B2 := Lib.hid (And.intro hb2 (And.intro hg hr))
    clear hr hg hb2
    go_wp2_with fail
    refine (VJ.out w2 g B2.out.1 B2.out.2.1 B2.out.2.2).mono ?_
    rintro e w3 ⟨rfl, ha, hgp⟩
    have R := Lib.hid (And.intro ha hgp)
    clear ha hgp
    go_wp2
    go_end0
    exact ⟨rfl, R.out.1, R.out.2⟩
theorem counts_start (s : ByteArray) (w : World) : CS w.heap.size s [] (((w.alloc (.cells #[.string s] 9)).alloc (.cells #[.int .i64 0] 3)).alloc (.cells #[.int .i64 0] 3)) ∧ Below w.heap.size w (((w.alloc (.cells #[.string s] 9)).alloc (.cells #[.int .i64 0] 3)).alloc (.cells #[.int .i64 0] 3)) := by
  obtain ⟨q0, q1, q2⟩ := heap3 w (.cells #[.string s] 9) (.cells #[.int .i64 0] 3) (.cells #[.int .i64 0] 3)
  exact ⟨⟨q0, q1, q2, by simp⟩, ((alloc_below w _).alloc (by simp) _).alloc (by simp; omega) _⟩
set_option maxHeartbeats 2000000 in
set_option maxRecDepth 100000 in
theorem impl_Counts (F : SF) (hF : snodes F ≤ 10000000) (hE : (sallE F).length ≤ 10000000) (s : ByteArray) (w : World) (v : Value) (hv : SV w 0 F v) : Calls Try.prog 12 #[v, .string s] w (CntP s F w) := by
  have hmf : ∀ (fn : Fn) (first cap : Array Value) (w : World), (Instr.makeFunc fn first cap).run Try.prog w = .ok (.func fn first cap) w := fun _ _ _ _ => rfl
  obtain ⟨j0, b0⟩ := counts_start s w
  have N0 := Lib.hid (And.intro j0 b0)
  have hlenh : ∀ (h : SH) (l : SF), (h, l) ∈ sall F → (hall h).length ≤ 10000000 := fun h l hm => by
    have key : ∀ (G : SF), (h, l) ∈ sall G → (hall h).length ≤ (sallE G).length := fun G => by
      induction G with
      | nil => intro hx; simp [sall] at hx
      | node _ _ h' l' r' ih1 ih2 =>
        intro hx
        simp only [sall, List.mem_cons, List.mem_append] at hx
        simp only [sallE, List.length_append]
        rcases hx with e | hx | hx
        · injection e with e1 e2; subst e1; omega
        · have := ih1 hx; omega
        · have := ih2 hx; omega
    exact Nat.le_trans (key F hm) hE
  have Hv := Lib.hid (fun (W : World) (hJ : CS w.heap.size s [] W) (hb : Below w.heap.size w W) (hW : w.heap.size + 3 ≤ W.heap.size) =>
    visitAllS_is F hF w W hb w.heap.size (w.heap.size + 3) (Nat.le_refl _) hW v hv 38 (fun _ _ => rfl) #[.pointer (some ⟨w.heap.size, 0, Option.none⟩), .pointer (some ⟨w.heap.size + 1, 0, Option.none⟩), .pointer (some ⟨w.heap.size + 2, 0, Option.none⟩)] (CS w.heap.size s)
      (CS.quiet _ _) hJ (fun vs h l v1 v2 v3 v4 u w1 hj hbb hsz hvv _ hm hl => CS.step w.heap.size s vs h.k h.s h.x1 h.x2 h.x3 h.x4 l v1 v2 v3 v4 u w1 (by omega) hj (by omega) (hlenh h l hm) w rfl hbb hvv))
  clear j0 b0
  go_enter Try.func12, Try.ntmps12
  go_wp2_with fail
  refine (Hv.out _ N0.out.1 N0.out.2 (by simp)).mono ?_
  rintro e w1 ⟨rfl, ⟨vs, ⟨h1, h2, h3, _⟩, hp⟩, hg⟩
  have ha : (vs.flatMap fun a => hall a.1).countP (hitA s) = asksF s F := by
    have e1 : (vs.flatMap fun a => hall a.1).Perm ((sall F).flatMap fun a => hall a.1) := List.Perm.flatMap_right _ hp
    rw [e1.countP_eq]
    have key : ∀ (G : SF), ((sall G).flatMap fun a => hall a.1).countP (hitA s) = asksF s G := fun G => by
      induction G with
      | nil => rfl
      | node p q h l r ih1 ih2 => rw [asksF_node, ← ih1, ← ih2]; simp only [sall, List.flatMap_cons, List.flatMap_append, List.countP_append, asksH_eq]
    exact key F
  have hs : vs.countP (hitS s) = setsF s F := hp.countP_eq _
  rw [ha] at h3
  rw [hs] at h2
  have c1 := cell_of_one h2
  have c2 := cell_of_one h3
  have hB1 := Lib.hid (N0.out.2.trans (hg.below (Nat.le_refl _) N0.out.2.size))
  obtain ⟨pp, hpp⟩ : ∃ p : Int, ((setsF s F : Nat) : Int) = p := ⟨_, rfl⟩
  obtain ⟨qq, hqq⟩ : ∃ p : Int, ((asksF s F : Nat) : Int) = p := ⟨_, rfl⟩
  rw [hpp] at c1
  rw [hqq] at c2
  have HP := Lib.hid (And.intro hpp hqq)
  clear h1 h2 h3 hp hg N0 Hv hlenh ha hs hpp hqq
  go_wp2_with fail
  go_quiet (fail)
  go_wp2
  exact bodyPost_ret (v := .tuple #[.int .i64 pp, .int .i64 qq]) (by simp [results, Try.results12, go_sem]) rfl ⟨by rw [show pp = _ from HP.out.1.symm, show qq = _ from HP.out.2.symm], below_drewC hB1.out _⟩
end Go.Proofs.Ythokildkedlkfaa
