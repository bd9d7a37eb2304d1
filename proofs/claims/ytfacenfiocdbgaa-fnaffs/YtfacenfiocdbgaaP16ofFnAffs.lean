/-
  Texts in one: AffSubI, AffSubA.
-/
import Derived.Test.YtfacenfiocdbgaaP13ofFnAffs
import Derived.Test.YtfacenfiocdbgaaP15ofFnAffs
import Derived.Test.YtfacenfiocdbgaaP08ofFnAffs
import Derived.Deep.RegionHeld
/-
  ifAffOk, SubA of the landed code.
-/
namespace Go.Proofs.Ytfacenfiocdbgaa
open Go.RowKit Go.Lib
set_option linter.unusedSimpArgs false
set_option linter.unusedVariables false

theorem AV.ofOwn8 {w : World} {B n c : Nat} {a : Option Addr} {ts : List AR} (h : w.ownsRow B 59 2 (.slice a n c) ts.length (acells ts)) : AV w 0 (.slice a n c) ts := by
  rcases h.2 with ⟨h0, h1⟩ | ⟨g, cap, cur, h1, h2, h3, h4⟩
  · have : ts = [] := List.length_eq_zero_iff.1 h1
    subst this
    exact ⟨_, _, h0, .inl rfl⟩
  · have hc := h.cells (g := g) (by rw [h1]; rfl)
    refine ⟨_, cap, h1, .inr ⟨g, 0, rfl, Nat.zero_le _, (Array.getElem?_eq_some_iff.1 h3).1, fun i t hi => ?_⟩⟩
    have hg := acells_get ts i t hi
    have e : ∀ j, (⟨g, 0, Option.none⟩ : Addr).add j = ⟨g, j, Option.none⟩ := fun j => by simp [Addr.add]; omega
    have a := hc _ _ hg.1; have b := hc _ _ hg.2
    rw [e] at a b
    exact ⟨by rw [Nat.zero_add]; exact a, by rw [Nat.zero_add]; exact b⟩
/-- A sum and whether it is one. -/
def pairR8 (ok : Bool) (c : Int) (va : Value) : Value := .tuple #[.agg (if ok = true then #[.int .i64 c, va] else #[.int .i64 0, .slice Option.none 0 0]), .bool ok]
set_option maxHeartbeats 2000000 in
set_option maxRecDepth 100000 in
theorem ifAffOk_is (c : Int) (ts : List AR) (hn : ts.length ≤ 1000000000) (va : Value) (w : World) (ha : AV w 0 va ts) (ok : Bool) (hv : affOk8 c ts = ok) :
    Calls Try.prog 33 #[.agg #[.int .i64 c, va]] w fun e w' => e = .returned (pairR8 ok c va) ∧ Below w.heap.size w w' := by
  have hb2 : Below w.heap.size w ((w.alloc (.cells #[.int .i64 c, va] 26)).alloc (.cells #[.int .i64 0, .slice Option.none 0 0] 26)) := (alloc_below w _).alloc (by simp) _
  obtain ⟨q0, q1⟩ := heap2t w (.cells #[.int .i64 c, va] 26) (.cells #[.int .i64 0, .slice Option.none 0 0] 26)
  have HA := Lib.hid (ha.later hb2)
  have HB := Lib.hid hb2
  have Q := Lib.hid (And.intro q0 q1)
  obtain ⟨a1, c1, rfl⟩ := ha.shape
  have HV := Lib.hid hv
  clear ha hb2 q0 q1 hv
  go_enter Try.func33, Try.ntmps33
  go_wp2_with fail
  refine (impl_AffOk c ts hn _ _ HA.out ok HV.out).mono ?_
  rintro e w1 ⟨rfl, hb1⟩
  have r0 := (hb1.block _ (Array.getElem?_eq_some_iff.1 Q.out.1).1).trans Q.out.1
  have r1 := (hb1.block _ (Array.getElem?_eq_some_iff.1 Q.out.2).1).trans Q.out.2
  have B1 := HB.out.trans (hb1.mono HB.out.size)
  have R1 := Lib.hid r1
  have HB1 := Lib.hid B1
  obtain ⟨⟨d0, d1⟩, _⟩ := blk2 r0
  obtain ⟨⟨e0, e1⟩, k0, k1⟩ := blk2 r1
  clear hb1 r0 r1 B1
  cases ok with
  | false =>
    go_wp2
    have f0 := Go.heap_setCell_same _ _ 0 _ _ (.int .i64 0) R1.out
    have f1 := Go.heap_setCell_same _ _ 1 _ _ (.slice Option.none 0 0) f0
    obtain ⟨⟨z0, z1⟩, _⟩ := blk2 f1
    refine bodyPost_ret (v := .tuple #[.agg #[.int .i64 0, .slice Option.none 0 0], .bool false]) (by simp [results, Try.results33, go_sem, z0, z1, e0, e1]) rfl ⟨rfl, ?_⟩
    first
      | exact (HB1.out.setCell (p := ⟨w.heap.size + 1, 0, Option.none⟩) (by simp) _).setCell (p := ⟨w.heap.size + 1, 1, Option.none⟩) (by simp) _
      | exact HB1.out
  | true =>
    go_wp2
    have f0 := Go.heap_setCell_same _ _ 0 _ _ (.int .i64 c) R1.out
    have f1 := Go.heap_setCell_same _ _ 1 _ _ (.slice a1 ts.length c1) f0
    obtain ⟨⟨z0, z1⟩, _⟩ := blk2 f1
    refine bodyPost_ret (v := .tuple #[.agg #[.int .i64 c, .slice a1 ts.length c1], .bool true]) (by simp [results, Try.results33, go_sem, z0, z1]) rfl ⟨rfl, ?_⟩
    exact (HB1.out.setCell (p := ⟨w.heap.size + 1, 0, Option.none⟩) (by simp) _).setCell (p := ⟨w.heap.size + 1, 1, Option.none⟩) (by simp) _
end Go.Proofs.Ytfacenfiocdbgaa
/-
  SubA of the landed code.
-/
namespace Go.Proofs.Ytfacenfiocdbgaa
open Go.RowKit Go.Lib
set_option linter.unusedSimpArgs false
set_option linter.unusedVariables false

/-- Below n nothing has turned but one block. -/
structure K8 (n S : Nat) (A B : World) : Prop where
  os : B.os = A.os
  tape : B.tape = A.tape
  output : B.output = A.output
  size : A.heap.size ≤ B.heap.size
  block : ∀ k, k < n → k ≠ S → B.heap[k]? = A.heap[k]?
theorem K8.of {n S : Nat} {A B : World} (h : Below n A B) : K8 n S A B := ⟨h.os, h.tape, h.output, h.size, fun k hk _ => h.block k hk⟩
theorem K8.trans {n S : Nat} {A B C : World} (h : K8 n S A B) (k : K8 n S B C) : K8 n S A C := ⟨k.os.trans h.os, k.tape.trans h.tape, k.output.trans h.output, Nat.le_trans h.size k.size, fun j h1 h2 => (k.block j h1 h2).trans (h.block j h1 h2)⟩
theorem K8.set {n S : Nat} (A : World) (i : Nat) (v : Value) : K8 n S A (A.setCell ⟨S, i, Option.none⟩ v) := ⟨rfl, rfl, rfl, by simp, fun k _ hk => Below.heap_setCell _ _ _ _ hk⟩
theorem K8.heap {n S k : Nat} {A B : World} {o : Obj} (h : K8 n S A B) (hk : k < n) (hs : k ≠ S) (ho : A.heap[k]? = some o) : B.heap[k]? = some o := (h.block k hk hs).trans ho
theorem heap3t (w : World) (a b c : Obj) : (((w.alloc a).alloc b).alloc c).heap[w.heap.size]? = some a ∧ (((w.alloc a).alloc b).alloc c).heap[w.heap.size + 1]? = some b ∧ (((w.alloc a).alloc b).alloc c).heap[w.heap.size + 1 + 1]? = some c := heap3 w a b c
theorem ownMono8 {w : World} {B B' sz n : Nat} {e : TypeId} {v : Value} {xs : List Value} (hB : B' ≤ B) (h : w.ownsRow B e sz v n xs) : w.ownsRow B' e sz v n xs := by
  refine ⟨h.1, ?_⟩
  rcases h.2 with h0 | ⟨g, cap, cur, h1, h2, h3⟩
  · exact .inl h0
  · exact .inr ⟨g, cap, cur, h1, Nat.le_trans hB h2, h3⟩
/-- Whether what is taken away is a sum, and which. -/
def subOk8 (ca cb : Int) (la lb : List AR) : Bool := affOk8 ca la && affOk8 cb lb && affOk8 (IntKind.i64.wrap (ca - cb)) (less8 (la.length + lb.length) la lb)
def OutSub8 (w : World) (ok : Bool) (c : Int) (ts : List AR) (e : Ending) (w' : World) : Prop :=
  ∃ v', e = .returned (pairR8 ok c v') ∧ (ok = true → w'.ownsRow w.heap.size 59 2 v' ts.length (acells ts)) ∧ Below w.heap.size w w'
set_option maxHeartbeats 4000000 in
set_option maxRecDepth 100000 in
theorem impl_SubA (ca cb : Int) (la lb : List AR) (hl : la.length ≤ 4000000) (hm : lb.length ≤ 4000000) (nl : NmB8 la) (nm : NmB8 lb) (va vb : Value) (w : World) (ha : AV w 0 va la) (hb : AV w 0 vb lb) (hca : Cap8 va) (hcb : Cap8 vb) :
    Calls Try.prog 10 #[.agg #[.int .i64 ca, va], .agg #[.int .i64 cb, vb]] w (OutSub8 w (subOk8 ca cb la lb) (IntKind.i64.wrap (ca - cb)) (less8 (la.length + lb.length) la lb)) := by
  obtain ⟨q0, q1, q2⟩ := heap3t w (.cells #[.int .i64 ca, va] 26) (.cells #[.int .i64 cb, vb] 26) (.cells #[.int .i64 0, .slice Option.none 0 0] 26)
  have hB3 : Below w.heap.size w (((w.alloc (.cells #[.int .i64 ca, va] 26)).alloc (.cells #[.int .i64 cb, vb] 26)).alloc (.cells #[.int .i64 0, .slice Option.none 0 0] 26)) := ((alloc_below w _).alloc (by simp) _).alloc (by simp; omega) _
  have HA := Lib.hid (And.intro ha (And.intro hb (And.intro hca (And.intro hcb (And.intro nl nm)))))
  obtain ⟨a1, c1, rfl⟩ := ha.shape
  obtain ⟨a2, c2, rfl⟩ := hb.shape
  have B0 := Lib.hid hB3
  have Q := Lib.hid (And.intro q0 (And.intro q1 q2))
  clear ha hb hca hcb nl nm hB3 q0 q1 q2
  cases ho : affOk8 ca la with
  | false =>
    have R : Hid (subOk8 ca cb la lb = false) := show subOk8 ca cb la lb = false by rw [subOk8, ho]; rfl
    have HO := Lib.hid ho
    clear ho
    go_enter Try.func10, Try.ntmps10
    go_wp2_with fail
    refine (impl_AffOk ca la (by omega) _ _ (HA.out.1.later B0.out) false HO.out).mono ?_
    rintro e w1 ⟨rfl, hb1⟩
    have r2 := (hb1.block _ (Array.getElem?_eq_some_iff.1 Q.out.2.2).1).trans Q.out.2.2
    have R2 := Lib.hid r2
    have B1 := Lib.hid (B0.out.trans (hb1.mono B0.out.size))
    obtain ⟨⟨e0, e1⟩, k0, k1⟩ := blk2 r2
    clear hb1 r2
    go_wp2
    have f0 := Go.heap_setCell_same _ _ 0 _ _ (.int .i64 0) R2.out
    have f1 := Go.heap_setCell_same _ _ 1 _ _ (.slice Option.none 0 0) f0
    obtain ⟨⟨z0, z1⟩, _⟩ := blk2 f1
    refine bodyPost_ret (v := .tuple #[.agg #[.int .i64 0, .slice Option.none 0 0], .bool false]) (by simp [results, Try.results10, go_sem, z0, z1, e0, e1]) rfl ⟨.slice Option.none 0 0, by rw [R.out]; rfl, (fun h => by rw [R.out] at h; cases h), ?_⟩
    first
      | exact (B1.out.setCell (p := ⟨w.heap.size + 1 + 1, 0, Option.none⟩) (Nat.le_trans (Nat.le_succ _) (Nat.le_succ _)) _).setCell (p := ⟨w.heap.size + 1 + 1, 1, Option.none⟩) (Nat.le_trans (Nat.le_succ _) (Nat.le_succ _)) _
      | exact B1.out
  | true =>
    have HO := Lib.hid ho
    cases ho2 : affOk8 cb lb with
    | false =>
      have R : Hid (subOk8 ca cb la lb = false) := show subOk8 ca cb la lb = false by rw [subOk8, ho, ho2]; rfl
      have HO2 := Lib.hid ho2
      clear ho ho2
      go_enter Try.func10, Try.ntmps10
      go_wp2_with fail
      refine (impl_AffOk ca la (by omega) _ _ (HA.out.1.later B0.out) true HO.out).mono ?_
      rintro e w1 ⟨rfl, hb1⟩
      have r1 := (hb1.block _ (Array.getElem?_eq_some_iff.1 Q.out.2.1).1).trans Q.out.2.1
      have r2 := (hb1.block _ (Array.getElem?_eq_some_iff.1 Q.out.2.2).1).trans Q.out.2.2
      have R2 := Lib.hid r2
      have B1 := Lib.hid (B0.out.trans (hb1.mono B0.out.size))
      obtain ⟨⟨d0, d1⟩, _⟩ := blk2 r1
      clear hb1 r1 r2
      go_wp2_with fail
      refine (impl_AffOk cb lb (by omega) _ _ (HA.out.2.1.later B1.out) false HO2.out).mono ?_
      rintro e w2 ⟨rfl, hb1⟩
      have r2 := (hb1.block _ (Array.getElem?_eq_some_iff.1 R2.out).1).trans R2.out
      have R3 := Lib.hid r2
      have B2 := Lib.hid (B1.out.trans (hb1.mono B1.out.size))
      obtain ⟨⟨e0, e1⟩, k0, k1⟩ := blk2 r2
      clear hb1 r2 d0 d1
      go_wp2
      have f0 := Go.heap_setCell_same _ _ 0 _ _ (.int .i64 0) R3.out
      have f1 := Go.heap_setCell_same _ _ 1 _ _ (.slice Option.none 0 0) f0
      obtain ⟨⟨z0, z1⟩, _⟩ := blk2 f1
      refine bodyPost_ret (v := .tuple #[.agg #[.int .i64 0, .slice Option.none 0 0], .bool false]) (by simp [results, Try.results10, go_sem, z0, z1, e0, e1]) rfl ⟨.slice Option.none 0 0, by rw [R.out]; rfl, (fun h => by rw [R.out] at h; cases h), ?_⟩
      first
        | exact (B2.out.setCell (p := ⟨w.heap.size + 1 + 1, 0, Option.none⟩) (Nat.le_trans (Nat.le_succ _) (Nat.le_succ _)) _).setCell (p := ⟨w.heap.size + 1 + 1, 1, Option.none⟩) (Nat.le_trans (Nat.le_succ _) (Nat.le_succ _)) _
        | exact B2.out
    | true =>
      obtain ⟨dd, hdd⟩ : ∃ dd, IntKind.i64.wrap (ca - cb) = dd := ⟨_, rfl⟩
      obtain ⟨L, hL⟩ : ∃ L, less8 (la.length + lb.length) la lb = L := ⟨_, rfl⟩
      obtain ⟨ok, hok⟩ : ∃ ok, affOk8 dd L = ok := ⟨_, rfl⟩
      have R : Hid (subOk8 ca cb la lb = ok) := show subOk8 ca cb la lb = ok by rw [subOk8, ho, ho2, hdd, hL, hok]; rfl
      have HO2 := Lib.hid ho2
      have HOK := Lib.hid hok
      have HLL := Lib.hid hL
      have HLn : Hid (L.length ≤ 8000000) := show L.length ≤ 8000000 by rw [← hL]; exact Nat.le_trans (less8_len _ _ _) (by omega)
      rw [R.out, hdd, hL]
      clear ho ho2 hok hL
      go_enter Try.func10, Try.ntmps10
      go_wp2_with fail
      refine (impl_AffOk ca la (by omega) _ _ (HA.out.1.later B0.out) true HO.out).mono ?_
      rintro e w1 ⟨rfl, hb1⟩
      have Q1 := Lib.hid (And.intro ((hb1.block _ (Array.getElem?_eq_some_iff.1 Q.out.1).1).trans Q.out.1) (And.intro ((hb1.block _ (Array.getElem?_eq_some_iff.1 Q.out.2.1).1).trans Q.out.2.1) ((hb1.block _ (Array.getElem?_eq_some_iff.1 Q.out.2.2).1).trans Q.out.2.2)))
      have B1 := Lib.hid (B0.out.trans (hb1.mono B0.out.size))
      obtain ⟨⟨d0, d1⟩, _⟩ := blk2 Q1.out.2.1
      clear hb1 Q
      go_wp2_with fail
      refine (impl_AffOk cb lb (by omega) _ _ (HA.out.2.1.later B1.out) true HO2.out).mono ?_
      rintro e w2 ⟨rfl, hb1⟩
      have Q2 := Lib.hid (And.intro ((hb1.block _ (Array.getElem?_eq_some_iff.1 Q1.out.1).1).trans Q1.out.1) (And.intro ((hb1.block _ (Array.getElem?_eq_some_iff.1 Q1.out.2.1).1).trans Q1.out.2.1) ((hb1.block _ (Array.getElem?_eq_some_iff.1 Q1.out.2.2).1).trans Q1.out.2.2)))
      have B2 := Lib.hid (B1.out.trans (hb1.mono B1.out.size))
      clear hb1 d0 d1 Q1
      go_wp2_with fail
      have bd : Below w2.heap.size w2 w2.drew := (Below.refl _ w2).drew
      have hsz2 : w.heap.size + 1 + 1 < w2.heap.size := (Array.getElem?_eq_some_iff.1 Q2.out.2.2).1
      have bk : K8 w2.heap.size (w.heap.size + 1 + 1) w2 w2.drew := K8.of bd
      have CT : Hid (∀ w3, Below w2.heap.size w2 w3 → Calls Try.prog 34 #[.slice a1 la.length c1, .slice a2 lb.length c2] w3 fun e w' => ∃ v', e = .returned v' ∧ w'.ownsRow w3.heap.size 59 2 v' L.length (acells L) ∧ Below w3.heap.size w3 w') := fun w3 h3 => by
        have hb3 := B2.out.trans (h3.mono B2.out.size)
        have := termsLess_is la lb hl hm HA.out.2.2.2.2.1 HA.out.2.2.2.2.2 _ _ w3 (HA.out.1.later hb3) (HA.out.2.1.later hb3) HA.out.2.2.1 HA.out.2.2.2.1
        rwa [HLL.out] at this
      refine wp_region_held_drew (S := K8 w2.heap.size (w.heap.size + 1 + 1) w2) (by kernel_rfl) bk (fun hHeld => ?_)
      refine wpAnyH_take (i := 0) (v := .pointer (some ⟨w.heap.size, 0, Option.none⟩)) rfl (by kernel_rfl) (by kernel_rfl) (by kernel_rfl) (fun _ _ _ h => h) (Or.inl ⟨by rfl, ?ya0⟩) hHeld ?_
      case ya0 => intro w hSw; go_simp
      simp only [Act.put, List.getElem_toArray, List.getElem_cons_succ, List.getElem_cons_zero, List.setIfInBounds_toArray, List.set_cons_zero, List.set_cons_succ]
      refine wpAnyH_take (i := 1) (v := .int .i64 ca) rfl (by kernel_rfl) (by kernel_rfl) (by kernel_rfl) (fun _ _ _ h => h) (Or.inl ⟨by rfl, ?ya1⟩) hHeld ?_
      case ya1 => intro w hSw; obtain ⟨⟨j0, j1⟩, _⟩ := blk2 (K8.heap hSw (by omega) (by omega) Q2.out.1); go_simp
      simp only [Act.put, List.getElem_toArray, List.getElem_cons_succ, List.getElem_cons_zero, List.setIfInBounds_toArray, List.set_cons_zero, List.set_cons_succ]
      refine wpAnyH_take (i := 2) (v := .pointer (some ⟨w.heap.size + 1, 0, Option.none⟩)) rfl (by kernel_rfl) (by kernel_rfl) (by kernel_rfl) (fun _ _ _ h => h) (Or.inl ⟨by rfl, ?ya2⟩) hHeld ?_
      case ya2 => intro w hSw; go_simp
      simp only [Act.put, List.getElem_toArray, List.getElem_cons_succ, List.getElem_cons_zero, List.setIfInBounds_toArray, List.set_cons_zero, List.set_cons_succ]
      refine wpAnyH_take (i := 3) (v := .int .i64 cb) rfl (by kernel_rfl) (by kernel_rfl) (by kernel_rfl) (fun _ _ _ h => h) (Or.inl ⟨by rfl, ?ya3⟩) hHeld ?_
      case ya3 => intro w hSw; obtain ⟨⟨j0, j1⟩, _⟩ := blk2 (K8.heap hSw (by omega) (by omega) Q2.out.2.1); go_simp
      simp only [Act.put, List.getElem_toArray, List.getElem_cons_succ, List.getElem_cons_zero, List.setIfInBounds_toArray, List.set_cons_zero, List.set_cons_succ]
      refine wpAnyH_take (i := 4) (v := .int .i64 dd) rfl (by kernel_rfl) (by kernel_rfl) (by kernel_rfl) (fun _ _ _ h => h) (Or.inl ⟨by rfl, ?ya4⟩) hHeld ?_
      case ya4 => intro w hSw; go_simp
      simp only [Act.put, List.getElem_toArray, List.getElem_cons_succ, List.getElem_cons_zero, List.setIfInBounds_toArray, List.set_cons_zero, List.set_cons_succ]
      refine wpAnyH_take (i := 5) (v := .pointer (some ⟨w.heap.size, 1, Option.none⟩)) rfl (by kernel_rfl) (by kernel_rfl) (by kernel_rfl) (fun _ _ _ h => h) (Or.inl ⟨by rfl, ?ya5⟩) hHeld ?_
      case ya5 => intro w hSw; go_simp
      simp only [Act.put, List.getElem_toArray, List.getElem_cons_succ, List.getElem_cons_zero, List.setIfInBounds_toArray, List.set_cons_zero, List.set_cons_succ]
      refine wpAnyH_take (i := 6) (v := .slice a1 la.length c1) rfl (by kernel_rfl) (by kernel_rfl) (by kernel_rfl) (fun _ _ _ h => h) (Or.inl ⟨by rfl, ?ya6⟩) hHeld ?_
      case ya6 => intro w hSw; obtain ⟨⟨j0, j1⟩, _⟩ := blk2 (K8.heap hSw (by omega) (by omega) Q2.out.1); go_simp
      simp only [Act.put, List.getElem_toArray, List.getElem_cons_succ, List.getElem_cons_zero, List.setIfInBounds_toArray, List.set_cons_zero, List.set_cons_succ]
      refine wpAnyH_take (i := 7) (v := .pointer (some ⟨w.heap.size + 1, 1, Option.none⟩)) rfl (by kernel_rfl) (by kernel_rfl) (by kernel_rfl) (fun _ _ _ h => h) (Or.inl ⟨by rfl, ?ya7⟩) hHeld ?_
      case ya7 => intro w hSw; go_simp
      simp only [Act.put, List.getElem_toArray, List.getElem_cons_succ, List.getElem_cons_zero, List.setIfInBounds_toArray, List.set_cons_zero, List.set_cons_succ]
      refine wpAnyH_take (i := 8) (v := .slice a2 lb.length c2) rfl (by kernel_rfl) (by kernel_rfl) (by kernel_rfl) (fun _ _ _ h => h) (Or.inl ⟨by rfl, ?ya8⟩) hHeld ?_
      case ya8 => intro w hSw; obtain ⟨⟨j0, j1⟩, _⟩ := blk2 (K8.heap hSw (by omega) (by omega) Q2.out.2.1); go_simp
      simp only [Act.put, List.getElem_toArray, List.getElem_cons_succ, List.getElem_cons_zero, List.setIfInBounds_toArray, List.set_cons_zero, List.set_cons_succ]
      refine wpAnyH_ready (rs := [9]) (by kernel_rfl) (by simp) ?_
      refine AllReadyH.cons rfl (fun K hK => ?_) AllReadyH.nil
      rw [if_pos (by rfl)]
      simp only [List.getElem_toArray, List.getElem_cons_succ, List.getElem_cons_zero]
      go_wp2_with fail
      refine (CT.out _ bd).mono ?_
      rintro e w4 ⟨v4, rfl, own4, hb4⟩
      obtain ⟨a4, c4, rfl⟩ := ownShape own4
      have AV4 : AV w4 0 (.slice a4 L.length c4) L := AV.ofOwn8 own4
      have OW4 := Lib.hid own4
      have BB4 := Lib.hid (bd.trans (hb4.mono bd.size))
      go_wp2_with fail
      refine hK.out _ _ (hHeld.trans (K8.of (hb4.mono bd.size))) (fun hHeld => ?_)
      refine wpAnyH_take (i := 10) (v := .agg #[.int .i64 dd, .slice a4 L.length c4]) rfl (by kernel_rfl) (by kernel_rfl) (by kernel_rfl) (fun _ _ _ h => h) (Or.inl ⟨by rfl, ?ya10⟩) hHeld ?_
      case ya10 => intro w hSw; go_simp
      simp only [Act.put, List.getElem_toArray, List.getElem_cons_succ, List.getElem_cons_zero, List.setIfInBounds_toArray, List.set_cons_zero, List.set_cons_succ]
      refine wpAnyH_ready (rs := [11]) (by kernel_rfl) (by simp) ?_
      refine AllReadyH.cons rfl (fun K hK => ?_) AllReadyH.nil
      rw [if_pos (by rfl)]
      simp only [List.getElem_toArray, List.getElem_cons_succ, List.getElem_cons_zero]
      go_wp2_with fail
      refine (ifAffOk_is dd L (by have := HLn.out; omega) _ _ AV4 ok HOK.out).mono ?_
      rintro e w5 ⟨rfl, hb5⟩
      have OW5 := Lib.hid (own_below8 OW4.out hb5)
      have BB5 := Lib.hid (BB4.out.trans (hb5.mono BB4.out.size))
      go_wp2_with fail
      refine hK.out _ _ (hHeld.trans (K8.of (hb5.mono BB4.out.size))) (fun hHeld => ?_)
      cases ok with
      | false =>
        have r5 := (BB5.out.block _ hsz2).trans Q2.out.2.2
        have R5 := Lib.hid r5
        have hdz : w2.drew.heap.size = w2.heap.size := rfl
        rw [show pairR8 false dd (.slice a4 L.length c4) = .tuple #[.agg #[.int .i64 0, .slice Option.none 0 0], .bool false] from rfl]
        refine wpAnyH_take (i := 12) (v := .agg #[.int .i64 0, .slice Option.none 0 0]) rfl (by kernel_rfl) (by kernel_rfl) (by kernel_rfl) (fun _ _ _ h => h) (Or.inl ⟨by rfl, ?yf12⟩) hHeld ?_
        case yf12 => intro w hSw; go_simp
        simp only [Act.put, List.getElem_toArray, List.getElem_cons_succ, List.getElem_cons_zero, List.setIfInBounds_toArray, List.set_cons_zero, List.set_cons_succ]
        refine wpAnyH_take (i := 13) (v := .bool false) rfl (by kernel_rfl) (by kernel_rfl) (by kernel_rfl) (fun _ _ _ h => h) (Or.inl ⟨by rfl, ?yf13⟩) hHeld ?_
        case yf13 => intro w hSw; go_simp
        simp only [Act.put, List.getElem_toArray, List.getElem_cons_succ, List.getElem_cons_zero, List.setIfInBounds_toArray, List.set_cons_zero, List.set_cons_succ]
        refine wpAnyH_ready (rs := [14]) (by kernel_rfl) (by simp) ?_
        refine AllReadyH.cons rfl (fun K hK => ?_) AllReadyH.nil
        rw [if_pos (by rfl)]
        simp only [List.getElem_toArray, List.getElem_cons_succ, List.getElem_cons_zero]
        obtain ⟨⟨e0, e1⟩, k0, k1⟩ := blk2 r5
        clear r5
        go_wp2_with fail
        refine hK.out _ _ ((hHeld.trans (K8.set _ 0 _)).trans (K8.set _ 1 _)) (fun hHeld => ?_)
        refine wpAnyH_take (i := 15) (v := .bool false) rfl (by kernel_rfl) (by kernel_rfl) (by kernel_rfl) (fun _ _ _ h => h) (Or.inl ⟨by rfl, ?yf15⟩) hHeld ?_
        case yf15 => intro w hSw; go_simp
        simp only [Act.put, List.getElem_toArray, List.getElem_cons_succ, List.getElem_cons_zero, List.setIfInBounds_toArray, List.set_cons_zero, List.set_cons_succ]
        refine wpAnyH_done (by kernel_rfl) ?_ _
        have f0 := Go.heap_setCell_same _ _ 0 _ _ (.int .i64 0) R5.out
        have f1 := Go.heap_setCell_same _ _ 1 _ _ (.slice Option.none 0 0) f0
        obtain ⟨⟨z0, z1⟩, _⟩ := blk2 f1
        have BZ := Lib.hid (((B2.out.trans (BB5.out.mono B2.out.size)).setCell (p := ⟨w.heap.size + 1 + 1, 0, Option.none⟩) (Nat.le_trans (Nat.le_succ _) (Nat.le_succ _)) (.int .i64 0)).setCell (p := ⟨w.heap.size + 1 + 1, 1, Option.none⟩) (Nat.le_trans (Nat.le_succ _) (Nat.le_succ _)) (.slice Option.none 0 0))
        clear hHeld e0 e1 k0 k1 f0 f1 bd bk AV4
        go_wp2
        refine bodyPost_ret (v := .tuple #[.agg #[.int .i64 0, .slice Option.none 0 0], .bool false]) (by simp [results, Try.results10, go_sem, z0, z1]) rfl ⟨.slice Option.none 0 0, rfl, ?_, BZ.out⟩
        intro h; cases h
      | true =>
        have r5 := (BB5.out.block _ hsz2).trans Q2.out.2.2
        have R5 := Lib.hid r5
        have hdz : w2.drew.heap.size = w2.heap.size := rfl
        rw [show pairR8 true dd (.slice a4 L.length c4) = .tuple #[.agg #[.int .i64 dd, .slice a4 L.length c4], .bool true] from rfl]
        refine wpAnyH_take (i := 12) (v := .agg #[.int .i64 dd, .slice a4 L.length c4]) rfl (by kernel_rfl) (by kernel_rfl) (by kernel_rfl) (fun _ _ _ h => h) (Or.inl ⟨by rfl, ?yt12⟩) hHeld ?_
        case yt12 => intro w hSw; go_simp
        simp only [Act.put, List.getElem_toArray, List.getElem_cons_succ, List.getElem_cons_zero, List.setIfInBounds_toArray, List.set_cons_zero, List.set_cons_succ]
        refine wpAnyH_take (i := 13) (v := .bool true) rfl (by kernel_rfl) (by kernel_rfl) (by kernel_rfl) (fun _ _ _ h => h) (Or.inl ⟨by rfl, ?yt13⟩) hHeld ?_
        case yt13 => intro w hSw; go_simp
        simp only [Act.put, List.getElem_toArray, List.getElem_cons_succ, List.getElem_cons_zero, List.setIfInBounds_toArray, List.set_cons_zero, List.set_cons_succ]
        refine wpAnyH_ready (rs := [14]) (by kernel_rfl) (by simp) ?_
        refine AllReadyH.cons rfl (fun K hK => ?_) AllReadyH.nil
        rw [if_pos (by rfl)]
        simp only [List.getElem_toArray, List.getElem_cons_succ, List.getElem_cons_zero]
        obtain ⟨⟨e0, e1⟩, k0, k1⟩ := blk2 r5
        clear r5
        go_wp2_with fail
        refine hK.out _ _ ((hHeld.trans (K8.set _ 0 _)).trans (K8.set _ 1 _)) (fun hHeld => ?_)
        refine wpAnyH_take (i := 15) (v := .bool true) rfl (by kernel_rfl) (by kernel_rfl) (by kernel_rfl) (fun _ _ _ h => h) (Or.inl ⟨by rfl, ?yt15⟩) hHeld ?_
        case yt15 => intro w hSw; go_simp
        simp only [Act.put, List.getElem_toArray, List.getElem_cons_succ, List.getElem_cons_zero, List.setIfInBounds_toArray, List.set_cons_zero, List.set_cons_succ]
        refine wpAnyH_done (by kernel_rfl) ?_ _
        have f0 := Go.heap_setCell_same _ _ 0 _ _ (.int .i64 dd) R5.out
        have f1 := Go.heap_setCell_same _ _ 1 _ _ (.slice a4 L.length c4) f0
        obtain ⟨⟨z0, z1⟩, _⟩ := blk2 f1
        have BZ := Lib.hid (((B2.out.trans (BB5.out.mono B2.out.size)).setCell (p := ⟨w.heap.size + 1 + 1, 0, Option.none⟩) (Nat.le_trans (Nat.le_succ _) (Nat.le_succ _)) (.int .i64 dd)).setCell (p := ⟨w.heap.size + 1 + 1, 1, Option.none⟩) (Nat.le_trans (Nat.le_succ _) (Nat.le_succ _)) (.slice a4 L.length c4))
        clear hHeld e0 e1 k0 k1 f0 f1 bd bk AV4
        go_wp2
        refine bodyPost_ret (v := .tuple #[.agg #[.int .i64 dd, .slice a4 L.length c4], .bool true]) (by simp [results, Try.results10, go_sem, z0, z1]) rfl ⟨.slice a4 L.length c4, rfl, ?_, BZ.out⟩
        intro _
        exact ownMono8 (by omega) (own_later8 OW5.out fun g _ hg _ => by
          have hne : g ≠ w.heap.size + 1 + 1 := by omega
          exact (Below.heap_setCell _ _ _ _ hne).trans (Below.heap_setCell _ _ _ _ hne))
end Go.Proofs.Ytfacenfiocdbgaa
