/-
  Texts in one: LookWith, FarI.
-/
import Derived.Test.YtjdpddcnogdekaaGreatP07ofMx
import Derived.RangeFuncNested
import Derived.RangeFuncBound
import Derived.RangeFuncCalls
import Derived.RangeFuncLeaves
import Derived.Shelf.Abstract
import Derived.Shelf.RegionOpen
import Derived.OwnWalkIn
import Derived.TacticsInMore
import Derived.LoopNIn
import Derived.LoopIn
import Derived.RangeFuncBox
import Derived.Test.YtjdpddcnogdekaaGreatP19ofMx
import Derived.RegionIn
/-
  What names stand for: slices.Backward, lookup.with and what it hands back.
-/
namespace Go.Proofs.YtjdpddcnogdekaaGreat
open Go.RowKit Go.Lib Go.Shelf
set_option linter.unusedSimpArgs false
set_option linter.unusedVariables false

attribute [local go_sem] Oper.semAt_some

/-- What a name stands for: the last of its binds, else what is around. -/
def bindOf : List AR → ByteArray → Option Int
  | [], _ => none
  | b :: bs, s => if b.s = s then some b.n else bindOf bs s
def withN (bs : List AR) (nm : ByteArray → Int) (s : ByteArray) : Int := (bindOf bs.reverse s).getD (nm s)
/-- A function value that says what each name stands for, in every world that is as J says. -/
structure Lk (fv : Value) (J : World → Prop) (nm : ByteArray → Int) : Prop where
  is : ∃ (kf : Nat) (caps : Array Value), fv = .func (.func kf) #[] caps ∧ (∀ (args : Array Value) (w : World), (callFunc kf args).run Tryz.prog w = .ok (.enter kf args) w) ∧
    ∀ w, J w → ∀ s, Calls Tryz.prog kf (#[.string s] ++ caps) w fun e w' => e = .returned (.int .i64 (nm s)) ∧ Below w.heap.size w w'
  on : ∀ w w', J w → Below w.heap.size w w' → J w'
/-- What comes of binds from behind, and where each stood. -/
def bw (bs : List AR) (k : Nat) : List (Nat × AR) := (List.range k).map fun j => (bs.length - 1 - j, bs[bs.length - 1 - j]?.getD ⟨⟨#[]⟩, 0⟩)
theorem bw_succ (bs : List AR) (k : Nat) : bw bs (k + 1) = bw bs k ++ [(bs.length - 1 - k, bs[bs.length - 1 - k]?.getD ⟨⟨#[]⟩, 0⟩)] := by simp [bw, List.range_succ]
theorem bw_len (bs : List AR) (k : Nat) : (bw bs k).length = k := by simp [bw]
abbrev bencs (x : Nat × AR) : Array Value := #[.int .i64 (x.1 : Int), .agg #[.string x.2.s, .int .i64 x.2.n]]
/-- None of these is bound to the name. -/
def noneOf (s : ByteArray) (pre : List (Nat × AR)) : Prop := ∀ x ∈ pre, ¬ x.2.s = s
theorem bind_none (bs : List AR) (s : ByteArray) : ∀ k, k ≤ bs.length → noneOf s (bw bs k) → bindOf bs.reverse s = bindOf (bs.reverse.drop k) s
  | 0, _, _ => by simp
  | k + 1, hk, h => by
    rw [bw_succ] at h
    have ih := bind_none bs s k (by omega) (fun x hx => h x (List.mem_append_left _ hx))
    rw [ih]
    have hkr : k < bs.reverse.length := by simp; omega
    rw [List.drop_eq_getElem_cons hkr, bindOf]
    have h1 := h (bs.length - 1 - k, bs[bs.length - 1 - k]?.getD ⟨⟨#[]⟩, 0⟩) (List.mem_append_right _ (by simp))
    rw [List.getElem?_eq_getElem (l := bs) (i := bs.length - 1 - k) (by omega)] at h1
    have e : bs.reverse[k] = bs[bs.length - 1 - k] := by simp [List.getElem_reverse]
    rw [e]
    exact if_neg h1
theorem bind_all {bs : List AR} {s : ByteArray} (h : noneOf s (bw bs bs.length)) : bindOf bs.reverse s = none := by
  rw [bind_none bs s _ (Nat.le_refl _) h, List.drop_of_length_le (by simp)]; rfl
theorem bind_hit {bs : List AR} {s : ByteArray} {pre : List (Nat × AR)} {x : Nat × AR} {k : Nat} (hk : k ≤ bs.length) (e : pre ++ [x] = bw bs k) (h : noneOf s pre) (hx : x.2.s = s) : bindOf bs.reverse s = some x.2.n := by
  cases k with
  | zero => simp [bw] at e
  | succ k =>
    rw [bw_succ] at e
    obtain ⟨e1, e2⟩ := List.append_inj' e rfl
    subst e1
    rw [bind_none bs s k (by omega) h]
    have hkr : k < bs.reverse.length := by simp; omega
    rw [List.drop_eq_getElem_cons hkr, bindOf]
    have e3 : bs.reverse[k] = bs[bs.length - 1 - k] := by simp [List.getElem_reverse]
    simp only [List.cons.injEq, and_true] at e2
    rw [List.getElem?_eq_getElem (l := bs) (i := bs.length - 1 - k) (by omega)] at e2
    rw [e3, if_pos (by rw [e2] at hx; exact hx), e2]; rfl
theorem ownC {β : Type} {B N : Nat} {ar : Array Value} {t : TypeId} : OwnFrom B (fun (_ : β) W => W.heap[N]? = some (.cells ar t (0, 0))) := fun s W W' row hs hg hr =>
  (hg.block N (Array.getElem?_eq_some_iff.1 hs).1 (fun e => by obtain ⟨_, o, ho, hc⟩ := hr N e.symm; rw [hs] at ho; cases ho; simp [Obj.isCells] at hc)).trans hs
theorem newB2 (W : World) (x0 x1 y0 y1 : Value) (t : TypeId) : (((W.alloc (.cells #[x0, x1] t)).setCell ⟨W.heap.size, 0, Option.none⟩ y0).setCell ⟨W.heap.size, 1, Option.none⟩ y1).heap[W.heap.size]? = some (.cells #[y0, y1] t (0, 0)) := by
  have h0 : (W.alloc (.cells #[x0, x1] t)).heap[W.heap.size]? = some (.cells #[x0, x1] t (0, 0)) := by show (W.heap.push _)[W.heap.size]? = _; simp
  have h1 := Go.heap_setCell_same _ _ 0 _ _ y0 h0
  have h2 := Go.heap_setCell_same _ _ 1 _ _ y1 h1
  exact h2
theorem blkAlloc {W : World} {N : Nat} {o o' : Obj} (h : W.heap[N]? = some o) : (W.alloc o').heap[N]? = some o := (Below.heap_alloc W o' N (Array.getElem?_eq_some_iff.1 h).1).trans h
theorem blkSet {W : World} {N : Nat} {o : Obj} (p : Addr) (u : Value) (h : W.heap[N]? = some o) (hne : N ≠ p.block) : (W.setCell p u).heap[N]? = some o := (Below.heap_setCell W p u N hne).trans h
theorem cell1 {W : World} {N : Nat} {v : Value} {t : TypeId} (h : W.heap[N]? = some (.cells #[v] t (0, 0))) : W.cell? ⟨N, 0, Option.none⟩ = some v := by simp [World.cell?, h]
end Go.Proofs.YtjdpddcnogdekaaGreat
/-
  farthest of the landed code, by the lesser and by the greater end; Least, Most, InArr.
-/
namespace Go.Proofs.YtjdpddcnogdekaaGreat
open Go.RowKit Go.Lib Go.Shelf
set_option linter.unusedSimpArgs false
set_option linter.unusedVariables false

attribute [local go_sem] Oper.semAt_some

theorem endsOf_in (n : Nat) (c : Int) (va : Value) (a : Option Addr) (m k : Nat) (w : World) :
    CallsIn Fence.wide n Tryz.prog 92 #[.agg #[.int .i64 c, va], .slice a m k] w fun e w' => e = .returned (.func (.func 98) #[] #[.pointer (some ⟨w.heap.size + 1, 0, Option.none⟩), .pointer (some ⟨w.heap.size, 0, Option.none⟩)]) ∧ w' = (w.alloc (.cells #[.int .i64 c, va] 26)).alloc (.cells #[.slice a m k] 27) := by
  refine callsIn_of_wp Tryz.func92 rfl trivial ?_ rfl
  simp only [Tryz.ntmps92, List.size_toArray, List.length_cons, List.length_nil, Nat.reduceAdd, Nat.reduceSub, Array.replicate_succ, Array.replicate_zero, List.push_toArray, List.append_toArray, List.nil_append, List.cons_append]
  gi_wp2
  go_ret
  exact ⟨rfl, rfl⟩
theorem lesser9 (a b : Int) (w : World) : Calls Tryz.prog 80 #[.int .i64 a, .int .i64 b] w fun e w' => e = .returned (.int .i64 (pick9 false a b)) ∧ w = w' := by
  go_enter Tryz.func80, Tryz.ntmps80
  go_wp2
  go_ret
  exact ⟨rfl, rfl⟩
theorem greater9 (a b : Int) (w : World) : Calls Tryz.prog 81 #[.int .i64 a, .int .i64 b] w fun e w' => e = .returned (.int .i64 (pick9 true a b)) ∧ w = w' := by
  go_enter Tryz.func81, Tryz.ntmps81
  go_wp2
  go_ret
  exact ⟨rfl, rfl⟩
theorem rnd9 {W w : World} {S n B N1 : Nat} {u v z : Int} {fv : Value} {T ti : TypeId} (e0 : W.heap[S]? = some (.cells #[.int .i64 u] ti (0, 0))) (e1 : W.heap[N1]? = some (.cells #[fv] T (0, 0))) (hne : N1 ≠ S) (hB : Below w.heap.size w W) (hS : w.heap.size ≤ S) (hv : v = z) :
    KeepsFrom B W (W.drew.setCell ⟨S, 0, Option.none⟩ (.int .i64 v)) ∧ K9 n S W (W.drew.setCell ⟨S, 0, Option.none⟩ (.int .i64 v)) ∧ ((W.drew.setCell ⟨S, 0, Option.none⟩ (.int .i64 v)).heap[S]? = some (.cells #[.int .i64 z] ti (0, 0)) ∧ ((W.drew.setCell ⟨S, 0, Option.none⟩ (.int .i64 v)).heap[N1]? = some (.cells #[fv] T (0, 0)) ∧ Below w.heap.size w (W.drew.setCell ⟨S, 0, Option.none⟩ (.int .i64 v)))) := by
  subst hv
  refine ⟨((KeepsOthers.drew W).trans (KeepsOthers.setCell _ _ _)).from _, ⟨rfl, rfl, rfl, by simp, fun k _ hk => Below.heap_setCell _ _ _ _ hk⟩, ?_, (Below.heap_setCell _ _ _ _ hne).trans e1, (belowD9 hB 1).setCell (p := ⟨S, 0, Option.none⟩) hS _⟩
  exact Go.heap_setCell_same W.drew S 0 _ _ (.int .i64 v) e0
def sumP9 (most : Bool) : List (Int × Int) → Int
  | [] => 0
  | x :: l => pick9 most x.1 x.2 + sumP9 most l
theorem sumP9_snoc (most : Bool) (x : Int × Int) : ∀ l, sumP9 most (l ++ [x]) = sumP9 most l + pick9 most x.1 x.2
  | [] => by simp [sumP9]
  | y :: l => by rw [List.cons_append, sumP9, sumP9_snoc most x l, sumP9]; omega
theorem sumP9_ends (most : Bool) (ts : List AR) : ∀ (rs : List RG), Fit9 rs → sumP9 most (rs.map (en9 ts)) = sumR9 most ts rs
  | [], _ => rfl
  | r :: rs, h => by
    rw [List.map_cons, sumP9, sumR9, sumP9_ends most ts rs (fun t ht => h t (by simp [ht]))]
    congr 1
    exact pick9_end most _ r (by have := (h r (by simp)).1; omega)
theorem heap2q (w : World) (a b : Obj) : ((w.alloc a).alloc b).heap[w.heap.size]? = some a ∧ ((w.alloc a).alloc b).heap[w.heap.size + 1]? = some b := by
  have h := heap_last (w.alloc a) b
  rw [World.size_alloc] at h
  exact ⟨by rw [Below.heap_alloc _ _ _ (by simp)]; exact heap_last _ _, h⟩

set_option maxRecDepth 100000 in
set_option maxHeartbeats 4000000 in
theorem far_least (c : Int) (ts : List AR) (hn : ts.length ≤ 1000000000) (rs : List RG) (hm : rs.length ≤ 1000000000) (va vb : Value) (w : World) (ha : AV w 0 va ts) (hb : RV w 0 vb rs) :
    Calls Tryz.prog 79 #[.agg #[.int .i64 c, va], vb, .func (.func 80) #[] #[]] w fun e w' => e = farR9 (far9 false c ts rs) ∧ Below w.heap.size w w' := by
  refine (callsIn_wide (n := 3)).1 ?_
  refine callsIn_of_wp_marks Tryz.func79 rfl trivial ?_ rfl
  simp only [Tryz.ntmps79, List.size_toArray, List.length_cons, List.length_nil, Nat.reduceAdd, Nat.reduceSub, Array.replicate_succ, Array.replicate_zero, List.push_toArray, List.append_toArray, List.nil_append, List.cons_append]
  have hB0 : Below w.heap.size w ((w.alloc (.cells #[.int .i64 c, va] 26)).alloc (.cells #[.func (.func 80) #[] #[]] 71)) := (alloc_below w _).alloc (by simp) _
  obtain ⟨z0, z1⟩ := heap2q w (.cells #[.int .i64 c, va] 26) (.cells #[.func (.func 80) #[] #[]] 71)
  have HA := Lib.hid (And.intro ha hb)
  have B0 := Lib.hid hB0
  have Z := Lib.hid (And.intro z0 z1)
  have hvs := hb.shape
  obtain ⟨bo, bcap, rfl⟩ := hvs
  obtain ⟨ao, acap, rfl⟩ := ha.shape
  clear ha hb hB0 z0 z1
  cases hk : affOk8 c ts with
  | false =>
    have R : Hid (far9 false c ts rs = none) := show far9 false c ts rs = none by rw [far9, hk]; rfl
    have HK := Lib.hid hk
    clear hk
    gi_wp2_with fail
    refine ⟨trivial, (callsIn_wide.2 (impl_AffOk c ts hn _ _ (HA.out.1.later B0.out) false HK.out)).mono ?_⟩
    rintro e w1 ⟨rfl, hb1⟩
    have B1 := Lib.hid (B0.out.trans (hb1.mono B0.out.size))
    clear hb1 Z
    gi_wp2_with (refine ⟨trivial, ?_⟩)
    exact ⟨.tuple #[.int .i64 0, .bool false], by simp [results, Tryz.f79, go_sem], by rw [R.out]; rfl, B1.out⟩
  | true =>
    have HK := Lib.hid hk
    have HM := Lib.hid (okFrom8_mem none ts (by have := hk; simp only [affOk8, Bool.and_eq_true] at this; exact this.2))
    cases hw : waysOk9 rs with
    | false =>
      have R : Hid (far9 false c ts rs = none) := show far9 false c ts rs = none by rw [far9, hk, hw]; rfl
      have HW := Lib.hid hw
      clear hk hw
      gi_wp2_with fail
      refine ⟨trivial, (callsIn_wide.2 (impl_AffOk c ts hn _ _ (HA.out.1.later B0.out) true HK.out)).mono ?_⟩
      rintro e w1 ⟨rfl, hb1⟩
      have B1 := Lib.hid (B0.out.trans (hb1.mono B0.out.size))
      clear hb1 Z
      gi_wp2_with fail
      refine ⟨trivial, (callsIn_wide.2 (hasWays_is rs hm _ _ (HA.out.2.later B1.out) false HW.out)).mono ?_⟩
      rintro e w2 ⟨rfl, hb1⟩
      have B2 := Lib.hid (B1.out.trans (hb1.mono B1.out.size))
      clear hb1
      gi_wp2_with (refine ⟨trivial, ?_⟩)
      exact ⟨.tuple #[.int .i64 0, .bool false], by simp [results, Tryz.f79, go_sem], by rw [R.out]; rfl, B2.out⟩
    | true =>
      have HW := Lib.hid hw
      have HF := Lib.hid (fit_of hw)
      cases hq : (ts.all fun t => hasR9 rs t.s) with
      | false =>
        have R : Hid (far9 false c ts rs = none) := show far9 false c ts rs = none by rw [far9, hk, hw, hq]; rfl
        have HQ := Lib.hid hq
        clear hk hw hq
        gi_wp2_with fail
        refine ⟨trivial, (callsIn_wide.2 (impl_AffOk c ts hn _ _ (HA.out.1.later B0.out) true HK.out)).mono ?_⟩
        rintro e w1 ⟨rfl, hb1⟩
        have B1 := Lib.hid (B0.out.trans (hb1.mono B0.out.size))
        have z1 := Lib.hid ((hb1.block _ (Array.getElem?_eq_some_iff.1 Z.out.1).1).trans Z.out.1)
        clear hb1 Z
        gi_wp2_with fail
        refine ⟨trivial, (callsIn_wide.2 (hasWays_is rs hm _ _ (HA.out.2.later B1.out) true HW.out)).mono ?_⟩
        rintro e w2 ⟨rfl, hb1⟩
        have B2 := Lib.hid (B1.out.trans (hb1.mono B1.out.size))
        have z2 := (hb1.block _ (Array.getElem?_eq_some_iff.1 z1.out).1).trans z1.out
        obtain ⟨⟨y0, y1⟩, _⟩ := blk2 z2
        clear hb1 z1 z2
        gi_wp2_with fail
        refine ⟨trivial, (callsIn_wide.2 (namesWithin_is c ts hn rs hm _ _ _ (HA.out.1.later B2.out) (HA.out.2.later B2.out) false HQ.out)).mono ?_⟩
        rintro e w3 ⟨rfl, hb1⟩
        have B3 := Lib.hid (B2.out.trans (hb1.mono B2.out.size))
        clear hb1 y0 y1
        gi_wp2
        exact ⟨.tuple #[.int .i64 0, .bool false], by simp [results, Tryz.f79, go_sem], by rw [R.out]; rfl, B3.out⟩
      | true =>
        have HO := Lib.hid (show okFrom8 none ts = true by have := hk; simp only [affOk8, Bool.and_eq_true] at this; exact this.2)
        have HC : Hid (-100000 ≤ c ∧ c ≤ 100000) := by have := hk; simp [affOk8, inMax8] at this; exact this.1
        have R : Hid (far9 false c ts rs = some (IntKind.i64.wrap (c + sumP9 false (rs.map (en9 ts))))) := show far9 false c ts rs = _ by rw [far9, hk, hw, hq, sumP9_ends false ts rs HF.out, sum_swap9 false rs (dist_of hw) none ts HO.out hq]; rfl
        have HQ := Lib.hid hq
        clear hk hw hq
        gi_wp2_with fail
        refine ⟨trivial, (callsIn_wide.2 (impl_AffOk c ts hn _ _ (HA.out.1.later B0.out) true HK.out)).mono ?_⟩
        rintro e w1 ⟨rfl, hb1⟩
        have B1 := Lib.hid (B0.out.trans (hb1.mono B0.out.size))
        have Z1 := Lib.hid (And.intro ((hb1.block _ (Array.getElem?_eq_some_iff.1 Z.out.1).1).trans Z.out.1) ((hb1.block _ (Array.getElem?_eq_some_iff.1 Z.out.2).1).trans Z.out.2))
        clear hb1 Z
        gi_wp2_with fail
        refine ⟨trivial, (callsIn_wide.2 (hasWays_is rs hm _ _ (HA.out.2.later B1.out) true HW.out)).mono ?_⟩
        rintro e w2 ⟨rfl, hb1⟩
        have B2 := Lib.hid (B1.out.trans (hb1.mono B1.out.size))
        have Z2 := Lib.hid (And.intro ((hb1.block _ (Array.getElem?_eq_some_iff.1 Z1.out.1).1).trans Z1.out.1) ((hb1.block _ (Array.getElem?_eq_some_iff.1 Z1.out.2).1).trans Z1.out.2))
        obtain ⟨⟨y0, y1⟩, _⟩ := blk2 Z2.out.1
        clear hb1 Z1
        gi_wp2_with fail
        refine ⟨trivial, (callsIn_wide.2 (namesWithin_is c ts hn rs hm _ _ _ (HA.out.1.later B2.out) (HA.out.2.later B2.out) true HQ.out)).mono ?_⟩
        rintro e w3 ⟨rfl, hb1⟩
        have B3 := Lib.hid (B2.out.trans (hb1.mono B2.out.size))
        have Z3 := Lib.hid (And.intro ((hb1.block _ (Array.getElem?_eq_some_iff.1 Z2.out.1).1).trans Z2.out.1) ((hb1.block _ (Array.getElem?_eq_some_iff.1 Z2.out.2).1).trans Z2.out.2))
        obtain ⟨⟨x0, x1⟩, _⟩ := blk2 Z3.out.1
        have x0' := keeps (alloc_below w3 (.cells #[.int .i64 c] 3)) x0
        have x1' := keeps (alloc_below w3 (.cells #[.int .i64 c] 3)) x1
        clear hb1 Z2 y0 y1 x1
        gi_wp2_with fail
        refine ⟨trivial, (endsOf_in _ c _ _ _ _ _).mono ?_⟩
        rintro e w4 ⟨rfl, hw4⟩
        gi_wp2_with fail
        have hB4 : Below w.heap.size w (((w3.alloc (.cells #[.int .i64 c] 3)).alloc (.cells #[.int .i64 c, .slice ao ts.length acap] 26)).alloc (.cells #[.slice bo rs.length bcap] 27)) := B3.out.trans ((((alloc_below w3 _).alloc (by simp) _).alloc (by simp; omega) _).mono B3.out.size)
        obtain ⟨d0, d1, d2⟩ := heap3 w3 (.cells #[.int .i64 c] 3) (.cells #[.int .i64 c, .slice ao ts.length acap] 26) (.cells #[.slice bo rs.length bcap] 27)
        have hz1 := (((alloc_below w3 (.cells #[.int .i64 c] 3)).alloc (by simp) (.cells #[.int .i64 c, .slice ao ts.length acap] 26)).alloc (by simp; omega) (.cells #[.slice bo rs.length bcap] 27)).block _ (Array.getElem?_eq_some_iff.1 Z3.out.2).1 |>.trans Z3.out.2
        have hsz : w4.heap.size = w3.heap.size + 3 := by rw [hw4]; simp
        rw [← hw4] at hB4 d0 d1 d2 hz1 ⊢
        have hwn : w.heap.size + 1 < w3.heap.size := (Array.getElem?_eq_some_iff.1 Z3.out.2).1
        clear hw4 x0 x0' x1'
        obtain ⟨⟨v0, v1⟩, _⟩ := blk2 d1
        have hc2 : w4.cell? ⟨w3.heap.size + 1 + 1, 0, Option.none⟩ = some (.slice bo rs.length bcap) := by simp [World.cell?, d2]
        have hAn : ∀ k, (Value.slice ao ts.length acap).ownBlock = some k → ts ≠ [] → k < w3.heap.size := fun k hk hne => by
          obtain ⟨ao', cap', e, h⟩ := HA.out.1
          injection e with e
          subst e
          rcases h with h | ⟨g, off, e1, _, e3, _⟩
          · exact absurd h hne
          · rw [e1] at hk; injection hk with hk; have h1 : g = k := hk; have h2 : g < w.heap.size := e3; omega
        have hRn : ∀ k, (Value.slice bo rs.length bcap).ownBlock = some k → rs ≠ [] → k < w3.heap.size := fun k hk hne => by
          obtain ⟨ao', cap', e, _, h⟩ := HA.out.2
          injection e with e
          subst e
          rcases h with h | ⟨g, off, e1, _, e3, _⟩
          · exact absurd h hne
          · rw [e1] at hk; injection hk with hk; have h1 : g = k := hk; have h2 : g < w.heap.size := e3; omega
        refine wpIn_rangeFunc_ownH rfl (by omega) (gf := 98) (lb := #[.pointer (some ⟨w3.heap.size + 1 + 1, 0, Option.none⟩), .pointer (some ⟨w3.heap.size + 1, 0, Option.none⟩)]) rfl trivial (enters_of Tryz.func98 (by kernel_rfl) rfl)
          (encs := encs9) (Kp := K9 (w3.heap.size + 3) w3.heap.size) (S := fun ys => ys = rs.map (en9 ts)) (Sp := fun _ => True) (N := rs.length) (w0 := w4)
          (fun l J Jx W hW hA1 hA2 hY h0 => ends_in l (w3.heap.size + 1 + 1) (w3.heap.size + 1) (w3.heap.size + 3) w3.heap.size c ts hn HM.out rs hm HF.out _ _ J Jx W (by have := hW.size; omega) hA1 hY (keeps hW hc2) (keeps hW v0) (keeps hW v1) ⟨by omega, by omega⟩ ⟨by omega, by omega⟩ ((HA.out.1.later hB4).later hW) (fun k hk hne => by have := hAn k hk hne; omega) ((HA.out.2.later hB4).later hW) (fun k hk hne => by have := hRn k hk hne; omega) h0)
          (fun h k => h.trans k) (fun W l o o' hl h h1 h2 => K9.of (belowK_b (w := w4) (by omega) W l o o' hl h h1 h2)) (Below.refl _ _) (fun _ => rfl)
          (fun pre W => W.heap[w3.heap.size]? = some (.cells #[.int .i64 (IntKind.i64.wrap (c + sumP9 false pre))] 3 (0, 0)) ∧ (W.heap[w.heap.size + 1]? = some (.cells #[.func (.func 80) #[] #[]] 71 (0, 0)) ∧ Below w.heap.size w W))
          (fun _ _ _ => False)
          (fun s W W' row hs hg hr => ⟨ownC (β := Unit) () W W' row hs.1 hg hr, ownC (β := Unit) () W W' row hs.2.1 hg hr, ownFrom_below (Nat.le_refl _) (by omega) () W W' row hs.2.2 hg hr⟩)
          (fun _ _ _ _ _ hs _ _ => hs)
          ⟨by rw [d0]; show some (Obj.cells #[Value.int .i64 c] _ _) = some (Obj.cells #[Value.int .i64 (IntKind.i64.wrap (c + 0))] _ _); rw [show IntKind.i64.wrap (c + 0) = c by have := HC.out; rw [IntKind.wrap_i64]; omega], hz1, hB4⟩
          (fun x a' W => a' = { tmps := #[.agg #[.int .i64 c, .slice ao ts.length acap], .slice bo rs.length bcap, .func (.func 80) #[] #[], .pointer (some ⟨w.heap.size, 0, Option.none⟩), undef, .pointer (some ⟨w.heap.size + 1, 0, Option.none⟩), .int .i64 0, .bool false, .pointer (some ⟨w3.heap.size, 0, Option.none⟩), .int .i64 x.1, .int .i64 x.2, .agg #[.int .i64 c, .slice ao ts.length acap], .bool true, .bool false, .bool false, .slice bo rs.length bcap, .bool true, .bool false, .bool false, .bool false, .agg #[.int .i64 c, .slice ao ts.length acap], .slice bo rs.length bcap, .bool true, .bool false, .bool false, .pointer (some ⟨w.heap.size, 0, Option.none⟩), .int .i64 c, .agg #[.int .i64 c, .slice ao ts.length acap], .slice bo rs.length bcap, .func (.func 98) #[] #[.pointer (some ⟨w3.heap.size + 1 + 1, 0, Option.none⟩), .pointer (some ⟨w3.heap.size + 1, 0, Option.none⟩)], .int .i64 x.1, .int .i64 x.2, undef, undef, undef, undef, undef, undef, undef], defers := [] })
          (fun x a' _ X Y row hs hg hr => hs)
          ?assign ?body ?done ?stop
        case assign =>
          rintro l pre x W K hI hK
          gi_wp2
          exact hK _ _ ((KeepsOthers.refl _).from _) (K9.refl _ _ _) hI rfl
        case body =>
          rintro l pre x a' W hl _ ⟨e0, e1, hB1⟩ rfl hlt
          have c0 : W.cell? ⟨w3.heap.size, 0, Option.none⟩ = some (.int .i64 (IntKind.i64.wrap (c + sumP9 false pre))) := by simp [World.cell?, e0]
          have f0 : W.frozen? ⟨w3.heap.size, 0, Option.none⟩ = false := by simp [World.frozen?, e0]
          have c1 : W.cell? ⟨w.heap.size + 1, 0, Option.none⟩ = some (.func (.func 80) #[] #[]) := by simp [World.cell?, e1]
          obtain ⟨sm, hsm⟩ : ∃ sm, IntKind.i64.wrap (c + sumP9 false pre) = sm := ⟨_, rfl⟩
          rw [hsm] at c0
          have E := Lib.hid (And.intro e0 (And.intro e1 (And.intro hB1 hsm)))
          have HSP : Hid (∀ v, v = IntKind.i64.wrap (sm + pick9 false x.1 x.2) → v = IntKind.i64.wrap (c + sumP9 false (pre ++ [x]))) := fun v hv => by rw [hv, ← hsm, wrap_add9, sumP9_snoc]; congr 1; omega
          clear e0 e1 hB1 hsm
          gi_wp2_with fail
          have mixed : Tryz.prog.follows Departure.mixedOrders = true := by kernel_rfl
          gi_region_with_o (refine ⟨trivial, ?_⟩; gi_at_call 80; refine (CallsIn.inRound l (callsIn_wide.2 (lesser9 x.1 x.2 _))).mono ?_; rintro e w' ⟨rfl, rfl⟩)
          all_goals (try gi_wp2_with fail)
          all_goals exact rnd9 E.out.1 E.out.2.1 (by omega) E.out.2.2.1 (by omega) (HSP.out _ (by first | rfl | exact (wrapE9 _).symm))
        case done =>
          rintro D zs W hD rfl ⟨e0, e1, hB1⟩ hK
          have c0 : W.cell? ⟨w3.heap.size, 0, Option.none⟩ = some (.int .i64 (IntKind.i64.wrap (c + sumP9 false (rs.map (en9 ts))))) := by simp [World.cell?, e0]
          obtain ⟨sv, hsv⟩ : ∃ sv, IntKind.i64.wrap (c + sumP9 false (rs.map (en9 ts))) = sv := ⟨_, rfl⟩
          rw [hsv] at c0
          have HS := Lib.hid hsv
          clear hsv e0
          gi_wp2
          refine ⟨by simp, .inl ⟨_, _, rfl, run_takeDeferred hK, ?_⟩⟩
          exact ⟨.tuple #[.int .i64 sv, .bool true], by simp [results, Tryz.f79, go_sem], by rw [R.out, HS.out]; rfl, hB1.trans (belowK_b (w := w) (Nat.le_refl _) W D _ _ (by omega) hK rfl rfl)⟩
        case stop =>
          rintro D c' pre W hD hSp hF hK
          exact hF.elim
end Go.Proofs.YtjdpddcnogdekaaGreat
