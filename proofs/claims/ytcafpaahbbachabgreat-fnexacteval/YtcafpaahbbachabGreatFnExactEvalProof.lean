/-
  PROVED: at the landed commit laws.FnExactEval returns true for every program, store, row of binds and expression: impl.Eval answers as the specification's Eval and writes into no argument; no condition.
-/
import Derived.Test.YtcafpaahbbachabGreatRows
import Derived.Test.YtcafpaahbbachabGreatP03ofEval
import Derived.Test.YtcafpaahbbachabGreatP04ofEval
import Derived.Test.YtcafpaahbbachabGreatP05ofEval
import Derived.Test.YtcafpaahbbachabGreatP11ofEval
import Derived.Test.YtcafpaahbbachabGreatNameVars
import Derived.WalkKit
import Derived.ProofKit
import Derived.OpenShut
import Derived.ShutString
import Derived.ChangeOld
import Derived.Below
namespace Go.Proofs.YtcafpaahbbachabGreat.fnExactEval
open Go.ChangeShapes Go.WideShapes Go.ChangeAt Go.RowKit
set_option linter.unusedSimpArgs false
set_option linter.unusedVariables false

theorem own : ownKnob Tryz.prog.godebug = none := by kernel_rfl
theorem laidOut : laidOutB Tryz.prog = true := by kernel_rfl
/-- All that is handed in. -/
structure In where
  ts : List AR
  F : SF
  A : List (List Int)
  V : List Int
  O : List Int
  en : Int
  bs : List AR
  x : X
/-- Where it lies. -/
structure At where
  va : Value
  vb : Value
  sa : Value
  sv : Value
  so : Value
  bv : Value
  v : Value
structure Dt (w : World) (i : In) (a : At) : Prop where
  p : AV w 0 a.va i.ts
  f : SV w 0 i.F a.vb
  s : StoV w a.sa a.sv a.so i.A i.V i.O
  b : AV w 0 a.bv i.bs
  e : EV w 0 i.x.l a.v
theorem Dt.later {w w' : World} {i : In} {a : At} (h : Dt w i a) (hb : Below w.heap.size w w') : Dt w' i a := ⟨h.p.later hb, h.f.later hb, h.s.later hb, h.b.later hb, h.e.later hb⟩
def pc (a : At) : List Value := [a.va, a.vb]
def sc (i : In) (a : At) : List Value := [a.sa, a.sv, a.so, .int .i64 i.en]
def ec (i : In) (a : At) : List Value := [.int .i64 i.x.h.k, .int .i64 i.x.h.n, .string i.x.h.s, a.v]
structure LB (w w' : World) (i : In) (a : At) : Prop where
  rp : w'.rangeAt w.heap.size 0 (pc a)
  rs : w'.rangeAt (w.heap.size + 1) 0 (sc i a)
  re : w'.rangeAt (w.heap.size + 2) 0 (ec i a)
  d : Dt w' i a
  b : Below w.heap.size w w'
theorem LB.later {w w1 w2 : World} {i : In} {a : At} (h : LB w w1 i a) (hb : Below w1.heap.size w1 w2) : LB w w2 i a := ⟨rangeAt_later h.rp hb, rangeAt_later h.rs hb, rangeAt_later h.re hb, h.d.later hb, h.b.trans (hb.mono h.b.size)⟩
theorem LB.start {w : World} {i : In} {a : At} (h : Dt w i a) (t1 t2 t3 : TypeId) : LB w (((w.alloc (.cells (pc a).toArray t1)).alloc (.cells (sc i a).toArray t2)).alloc (.cells (ec i a).toArray t3)) i a := by
  obtain ⟨h1, h2, h3⟩ := heap3 w (.cells (pc a).toArray t1) (.cells (sc i a).toArray t2) (.cells (ec i a).toArray t3)
  have hb : Below w.heap.size w (((w.alloc (.cells (pc a).toArray t1)).alloc (.cells (sc i a).toArray t2)).alloc (.cells (ec i a).toArray t3)) := ((alloc_below w _).alloc (by simp) _).alloc (by simp; omega) _
  exact ⟨blk_range h1, blk_range h2, blk_range h3, h.later hb, hb⟩
structure Ok (i : In) : Prop where
  t : ∀ t ∈ i.ts, t.s.size ≤ 9223372036854775807
  tl : i.ts.length ≤ 9223372036854775807
  f : sok i.F
  fl : slen i.F ≤ 9223372036854775807
  s : StoG i.A i.V i.O
  b : ∀ t ∈ i.bs, t.s.size ≤ 9223372036854775807
  bl : i.bs.length ≤ 9223372036854775807
  x : xok i.x
structure Lim (i : In) : Prop where
  t : i.ts.length ≤ 1048576
  f : ssize i.F ≤ 1048576
  a : i.A.length ≤ 1048576 ∧ (∀ xs ∈ i.A, xs.length ≤ 1048576) ∧ i.V.length ≤ 1048576 ∧ i.O.length ≤ 1048576
  b : i.bs.length ≤ 1048576
  x : xsize i.x ≤ 1048576
theorem len_le_tot (A : List (List Int)) : ∀ xs ∈ A, xs.length ≤ totA A := by
  induction A with
  | nil => intro xs h; simp at h
  | cons a A ih =>
    intro xs h
    rcases List.mem_cons.1 h with rfl | h
    · simp only [totA]; omega
    · have := ih xs h; simp only [totA]; omega
def stz (i : In) : Nat := i.A.length + totA i.A + i.V.length + i.O.length
theorem lim {i : In} (h1 : asize i.ts + ssize i.F ≤ 1048576) (h2 : stz i ≤ 1048576) (h3 : asize i.bs ≤ 1048576) (h4 : xsize i.x ≤ 1048576) : Lim i := by
  unfold asize at h1 h3
  unfold stz at h2
  exact ⟨by omega, by omega, ⟨by omega, fun xs h => by have := len_le_tot i.A xs h; omega, by omega, by omega⟩, by omega, h4⟩
theorem Lim.sto {i : In} (h : Lim i) : StoL i.A i.V i.O := ⟨by have := h.a.1; omega, fun xs hx => Nat.le_trans (h.a.2.1 xs hx) (by omega), by have := h.a.2.2.1; omega, by have := h.a.2.2.2; omega⟩
theorem szP {i : In} (k : Ok i) (a : At) (w : World) (h : Dt w i a) : Calls Tryz.prog 5 #[.agg (pc a).toArray, .int .i64 1048576] w (Sz (asize i.ts + ssize i.F) 1048576 w) := szProg_is i.ts i.F k.t k.tl k.f k.fl a.va a.vb w h.p h.f
theorem szS {i : In} (k : Ok i) (a : At) (w : World) (h : Dt w i a) (left : Int) (h0 : 0 ≤ left) (h1 : left ≤ 1048576) : Calls Tryz.prog 6 #[.agg (sc i a).toArray, .int .i64 left] w (Sz (stz i) left w) := szSto_is i.A i.V i.O i.en k.s.a k.s.b k.s.v k.s.o a.sa a.sv a.so w h.s.a h.s.v h.s.o left h0 h1
theorem szB {i : In} (k : Ok i) (a : At) (w : World) (h : Dt w i a) (left : Int) (h0 : 0 ≤ left) (h1 : left ≤ 1048576) : Calls Tryz.prog 7 #[a.bv, .int .i64 left] w (Sz (asize i.bs) left w) := szBindS_is i.bs k.b k.bl a.bv w h.b left h0 h1
theorem szE {i : In} (k : Ok i) (a : At) (w : World) (h : Dt w i a) (left : Int) (h0 : 0 ≤ left) (h1 : left ≤ 1048576) : Calls Tryz.prog 8 #[.agg (ec i a).toArray, .int .i64 left] w (Sz (xsize i.x) left w) := szExp_is i.x k.x w a.v left h.e h0 h1
theorem toP {i : In} (k : Lim i) (a : At) (w : World) (h : Dt w i a) : Calls Tryz.prog 10 #[.agg (pc a).toArray] w fun e w' => ∃ ua ub, e = .returned (.agg #[ua, ub]) ∧ AV w' 0 ua i.ts ∧ SV w' 0 i.F ub ∧ Below w.heap.size w w' := toProg_is i.ts i.F k.t k.f a.va a.vb w h.p h.f
theorem toS {i : In} (k : Lim i) (a : At) (w : World) (h : Dt w i a) : Calls Tryz.prog 11 #[.agg (sc i a).toArray] w fun e w' => ∃ ua uv uo, e = .returned (.agg #[ua, uv, uo, .int .i64 i.en]) ∧ StoV w' ua uv uo i.A i.V i.O ∧ Below w.heap.size w w' := toSto_is i.A i.V i.O i.en k.a a.sa a.sv a.so w h.s
theorem toB {i : In} (k : Lim i) (a : At) (w : World) (h : Dt w i a) : Calls Tryz.prog 12 #[a.bv] w fun e w' => ∃ u, e = .returned u ∧ AV w' 0 u i.bs ∧ Below w.heap.size w w' := (toBindS_is i.bs k.b a.bv w h.b).mono fun e w' ⟨u, h1, h2, h3⟩ => ⟨u, h1, h2.low, h3⟩
theorem toE {i : In} (k : Lim i) (a : At) (w : World) (h : Dt w i a) : Calls Tryz.prog 13 #[.agg (ec i a).toArray] w fun e w' => ∃ u, e = .returned (.agg #[.int .i64 i.x.h.k, .int .i64 i.x.h.n, .string i.x.h.s, u]) ∧ EV w' 0 i.x.l u ∧ Below w.heap.size w w' := (toExp_is i.x k.x w a.v h.e).mono fun e w' ⟨u, h1, h2, h3⟩ => ⟨u, h1, h2.low, h3⟩
theorem nlen {i : In} (k : Lim i) : (nmS 1 i.F []).length ≤ 1048576 := by
  have h1 := nmS_len 1 i.F []
  have h2 := snodes_le i.F
  have h3 := k.f
  simp only [List.length_nil] at h1
  omega
theorem rl {i : In} (k : Lim i) : RL i.ts (nmS 1 i.F []) i.A i.V i.bs := ⟨k.t, by have := nlen k; omega, by have := k.a.1; omega, fun xs hx => Nat.le_trans (k.a.2.1 xs hx) (by omega), by have := k.a.2.2.1; omega, by have := k.b; omega⟩
def ans (i : In) : Option Int := evalP i.ts (nmS 1 i.F []) i.A i.V i.bs i.x
theorem specE {i : In} (k : Lim i) (a : At) (w : World) (h : Dt w i a) : Calls Tryz.prog 9 #[.agg (pc a).toArray, .agg (sc i a).toArray, a.bv, .agg (ec i a).toArray] w fun e w' => e = valR (ans i) ∧ Below w.heap.size w w' :=
  spec_Eval i.ts i.F (nmS 1 i.F []) i.A i.V i.O i.bs i.x (rl k) (by have := k.a.2.2.2; omega) k.x a.va a.vb a.sa a.sv a.so a.bv a.v i.en w h.p h.f h.s h.b h.e (fun w v hv => spec_VarsOf i.F (by have := snodes_le i.F; have := k.f; omega) w v hv)
theorem implE {i : In} (k : Lim i) (a : At) (w : World) (h : Dt w i a) : Calls Tryz.prog 14 #[.agg (pc a).toArray, .agg (sc i a).toArray, a.bv, .agg (ec i a).toArray] w fun e w' => e = valR (ans i) ∧ Below w.heap.size w w' :=
  impl_Eval i.ts i.F (nmS 1 i.F []) i.A i.V i.O i.bs i.x (rl k) (by have := k.a.2.2.2; omega) k.x a.va a.vb a.sa a.sv a.so a.bv a.v i.en w h.p h.f h.s h.b h.e (fun w v hv => (impl_VarsOf i.F (by have := snodes_le i.F; have := k.f; omega) (fun n hn => Nat.le_trans (sall_small i.F n hn) (by have := k.f; omega)) w v hv).mono fun e w' ⟨u, h1, h2, h3⟩ => ⟨u, h1, (TV.of h2).low, h3⟩)
theorem one2 {a b : Value} (ha : a.oneCell' = true) (hb : b.oneCell' = true) : (#[a, b] : Array Value).all (·.oneCell') = true := oneP ha hb
theorem newR2 {w2 W : World} {x0 x1 y0 y1 : Value} {t : TypeId} (hW : (w2.alloc (.cells #[x0, x1] t)).setCells w2.heap.size 0 [y0, y1] = W) : W.rangeAt w2.heap.size 0 [y0, y1] ∧ Below w2.heap.size w2 W := newblk2 y0 y1 hW
theorem newR4 {w2 W : World} {x0 x1 x2 x3 y0 y1 y2 y3 : Value} {t : TypeId} (hW : (w2.alloc (.cells #[x0, x1, x2, x3] t)).setCells w2.heap.size 0 [y0, y1, y2, y3] = W) : W.rangeAt w2.heap.size 0 [y0, y1, y2, y3] ∧ Below w2.heap.size w2 W := by
  subst hW
  exact ⟨World.rangeAt_setCells_same _ _ _ _ (blk_there (arr := #[x0, x1, x2, x3]) (t := t) (blkLast _ _) (Nat.le_refl 4)), below_sets _ _ (alloc_below _ _) (Nat.le_refl _)⟩
theorem th4 (w : World) (x0 x1 x2 x3 : Value) (t : TypeId) : (w.alloc (.cells #[x0, x1, x2, x3] t)).there w.heap.size 0 4 := blk_there (arr := #[x0, x1, x2, x3]) (t := t) (blkLast _ _) (Nat.le_refl 4)
/-- The copies, each in a variable. -/
structure Cp (w : World) (i : In) (na nb nd : Nat) (a : At) : Prop where
  rp : w.rangeAt na 0 (pc a)
  rs : w.rangeAt nb 0 (sc i a)
  re : w.rangeAt nd 0 (ec i a)
  d : Dt w i a
theorem Cp.later {w w' : World} {i : In} {na nb nd : Nat} {a : At} (h : Cp w i na nb nd a) (hb : Below w.heap.size w w') : Cp w' i na nb nd a := ⟨rangeAt_later h.rp hb, rangeAt_later h.rs hb, rangeAt_later h.re hb, h.d.later hb⟩
set_option maxHeartbeats 8000000 in
set_option maxRecDepth 100000 in
theorem walk (i : In) (a : At) (k : Ok i) (w : World) (h : Dt w i a) :
    Calls Tryz.prog 3 #[.agg (pc a).toArray, .agg (sc i a).toArray, a.bv, .agg (ec i a).toArray] w fun e w' => e = .returned (.bool true) ∧ Below w.heap.size w w' := by
  have HK := Lib.hid k
  have T0 := Lib.hid (LB.start h 25 29 33)
  clear k h
  go_enter Tryz.func3, Tryz.ntmps3
  go_wp2_with (refine wpList_load_mid rfl 25 _ rfl (w.heap.size) 0 rfl _ _ T0.out.rp Tryz.underlying25 rfl sizeLP ?_)
  refine (szP HK.out a _ T0.out.d).mono ?_
  rintro e w1 ⟨rfl, hb1⟩
  have T1 := Lib.hid (T0.out.later hb1)
  clear hb1 T0
  by_cases d1 : (1048576 : Int) < ((asize i.ts + ssize i.F : Nat) : Int)
  · rw [if_pos d1]
    go_wp2
    go_ret
    exact ⟨rfl, T1.out.b⟩
  rw [if_neg d1]
  obtain ⟨L1, hL1⟩ : ∃ L1 : Int, 1048576 - ((asize i.ts + ssize i.F : Nat) : Int) = L1 := ⟨_, rfl⟩
  rw [hL1]
  have n1 : ¬ L1 < 0 := by omega
  have m1 : 0 ≤ L1 ∧ L1 ≤ 1048576 := by omega
  have E1 : Hid (asize i.ts + ssize i.F ≤ 1048576) := show asize i.ts + ssize i.F ≤ 1048576 by omega
  clear hL1 d1
  go_wp2_with (refine wpList_load_mid rfl 29 _ rfl (w.heap.size + 1) 0 rfl _ _ T1.out.rs Tryz.underlying29 rfl sizeLSto ?_)
  refine (szS HK.out a _ T1.out.d L1 m1.1 m1.2).mono ?_
  rintro e w2 ⟨rfl, hb2⟩
  have T2 := Lib.hid (T1.out.later hb2)
  clear hb2 T1
  by_cases d2 : L1 < ((stz i : Nat) : Int)
  · rw [if_pos d2]
    go_wp2
    go_ret
    exact ⟨rfl, T2.out.b⟩
  rw [if_neg d2]
  obtain ⟨L2, hL2⟩ : ∃ L2 : Int, L1 - ((stz i : Nat) : Int) = L2 := ⟨_, rfl⟩
  rw [hL2]
  have n2 : ¬ L2 < 0 := by omega
  have m2 : 0 ≤ L2 ∧ L2 ≤ 1048576 := by omega
  have E2 : Hid (stz i ≤ 1048576) := show stz i ≤ 1048576 by omega
  clear hL2 d2 n1 m1
  go_wp2_with fail
  refine (szB HK.out a _ T2.out.d L2 m2.1 m2.2).mono ?_
  rintro e w3 ⟨rfl, hb3⟩
  have T3 := Lib.hid (T2.out.later hb3)
  clear hb3 T2
  by_cases d3 : L2 < ((asize i.bs : Nat) : Int)
  · rw [if_pos d3]
    go_wp2
    go_ret
    exact ⟨rfl, T3.out.b⟩
  rw [if_neg d3]
  obtain ⟨L3, hL3⟩ : ∃ L3 : Int, L2 - ((asize i.bs : Nat) : Int) = L3 := ⟨_, rfl⟩
  rw [hL3]
  have n3 : ¬ L3 < 0 := by omega
  have m3 : 0 ≤ L3 ∧ L3 ≤ 1048576 := by omega
  have E3 : Hid (asize i.bs ≤ 1048576) := show asize i.bs ≤ 1048576 by omega
  clear hL3 d3 n2 m2
  go_wp2_with (refine wpList_load_mid rfl 33 _ rfl (w.heap.size + 2) 0 rfl _ _ T3.out.re Tryz.underlying33 rfl sizeLE ?_)
  refine (szE HK.out a _ T3.out.d L3 m3.1 m3.2).mono ?_
  rintro e w4 ⟨rfl, hb4⟩
  have T4 := Lib.hid (T3.out.later hb4)
  clear hb4 T3
  by_cases d4 : L3 < ((xsize i.x : Nat) : Int)
  · rw [if_pos d4]
    go_wp2
    go_ret
    exact ⟨rfl, T4.out.b⟩
  rw [if_neg d4]
  have n4 : ¬ L3 - ((xsize i.x : Nat) : Int) < 0 := by omega
  have E4 : Hid (xsize i.x ≤ 1048576) := show xsize i.x ≤ 1048576 by omega
  have LM := Lib.hid (lim E1.out E2.out E3.out E4.out)
  obtain ⟨r, hr⟩ : ∃ r, ans i = r := ⟨_, rfl⟩
  have HR := Lib.hid hr
  clear d4 m3 n3 E1 E2 E3 E4 hr
  go_wp2_with fail
  have bd : Below w4.heap.size w4 w4.drew := (Below.refl _ w4).drew
  have Td := T4.out.later bd
  refine wp_region_held_drew (S := fun w' => w'.rangeAt w.heap.size 0 (pc a) ∧ w'.rangeAt (w.heap.size + 1) 0 (sc i a) ∧ w'.rangeAt (w.heap.size + 2) 0 (ec i a)) (by kernel_rfl) ⟨Td.rp, Td.rs, Td.re⟩ (fun hHeld => ?_)
  refine wpAnyH_take (i := 0) (v := .agg (pc a).toArray) rfl (by kernel_rfl) (by kernel_rfl) (by kernel_rfl) (fun _ _ _ h => h) (yieldsIf_load_mid (by rfl) 25 _ rfl (w.heap.size) (0) rfl (pc a) _ (fun w h => h.1) Tryz.underlying25 rfl sizeLP) hHeld ?_
  simp only [Act.put, List.getElem_toArray, List.getElem_cons_succ, List.getElem_cons_zero, List.setIfInBounds_toArray, List.set_cons_zero, List.set_cons_succ]
  refine wpAnyH_take (i := 2) (v := .agg (sc i a).toArray) rfl (by kernel_rfl) (by kernel_rfl) (by kernel_rfl) (fun _ _ _ h => h) (yieldsIf_load_mid (by rfl) 29 _ rfl (w.heap.size + 1) (0) rfl (sc i a) _ (fun w h => h.2.1) Tryz.underlying29 rfl sizeLSto) hHeld ?_
  simp only [Act.put, List.getElem_toArray, List.getElem_cons_succ, List.getElem_cons_zero, List.setIfInBounds_toArray, List.set_cons_zero, List.set_cons_succ]
  refine wpAnyH_take (i := 4) (v := a.bv) rfl (by kernel_rfl) (by kernel_rfl) (by kernel_rfl) (fun _ _ _ h => h) (Or.inl ⟨by rfl, ?qa4⟩) hHeld ?_
  case qa4 => intro w hSw; go_simp
  simp only [Act.put, List.getElem_toArray, List.getElem_cons_succ, List.getElem_cons_zero, List.setIfInBounds_toArray, List.set_cons_zero, List.set_cons_succ]
  refine wpAnyH_take (i := 6) (v := .agg (ec i a).toArray) rfl (by kernel_rfl) (by kernel_rfl) (by kernel_rfl) (fun _ _ _ h => h) (yieldsIf_load_mid (by rfl) 33 _ rfl (w.heap.size + 2) (0) rfl (ec i a) _ (fun w h => h.2.2) Tryz.underlying33 rfl sizeLE) hHeld ?_
  simp only [Act.put, List.getElem_toArray, List.getElem_cons_succ, List.getElem_cons_zero, List.setIfInBounds_toArray, List.set_cons_zero, List.set_cons_succ]
  refine wpAnyH_ready (rs := [1]) (by kernel_rfl) (by simp) ?_
  refine AllReadyH.cons rfl (fun K hK => ?_) AllReadyH.nil
  rw [if_pos (by rfl)]
  simp only [List.getElem_toArray, List.getElem_cons_succ, List.getElem_cons_zero]
  go_wp2_with fail
  refine (toP LM.out a _ Td.d).mono ?_
  rintro e w5 ⟨u1, u2, rfl, g1, g2, hb5⟩
  have T5 := Td.later hb5
  go_wp2_with fail
  refine hK.out _ _ (⟨rangeAt_later hHeld.1 hb5, rangeAt_later hHeld.2.1 hb5, rangeAt_later hHeld.2.2 hb5⟩) (fun hHeld => ?_)
  refine wpAnyH_ready (rs := [3]) (by kernel_rfl) (by simp) ?_
  refine AllReadyH.cons rfl (fun K hK => ?_) AllReadyH.nil
  rw [if_pos (by rfl)]
  simp only [List.getElem_toArray, List.getElem_cons_succ, List.getElem_cons_zero]
  go_wp2_with fail
  refine (toS LM.out a _ T5.d).mono ?_
  rintro e w6 ⟨u3, u4, u5, rfl, g3, hb6⟩
  have T6 := T5.later hb6
  go_wp2_with fail
  refine hK.out _ _ (⟨rangeAt_later hHeld.1 hb6, rangeAt_later hHeld.2.1 hb6, rangeAt_later hHeld.2.2 hb6⟩) (fun hHeld => ?_)
  refine wpAnyH_ready (rs := [5]) (by kernel_rfl) (by simp) ?_
  refine AllReadyH.cons rfl (fun K hK => ?_) AllReadyH.nil
  rw [if_pos (by rfl)]
  simp only [List.getElem_toArray, List.getElem_cons_succ, List.getElem_cons_zero]
  go_wp2_with fail
  refine (toB LM.out a _ T6.d).mono ?_
  rintro e w7 ⟨u6, rfl, g6, hb7⟩
  have T7 := T6.later hb7
  go_wp2_with fail
  refine hK.out _ _ (⟨rangeAt_later hHeld.1 hb7, rangeAt_later hHeld.2.1 hb7, rangeAt_later hHeld.2.2 hb7⟩) (fun hHeld => ?_)
  refine wpAnyH_ready (rs := [7]) (by kernel_rfl) (by simp) ?_
  refine AllReadyH.cons rfl (fun K hK => ?_) AllReadyH.nil
  rw [if_pos (by rfl)]
  simp only [List.getElem_toArray, List.getElem_cons_succ, List.getElem_cons_zero]
  go_wp2_with fail
  refine (toE LM.out a _ T7.d).mono ?_
  rintro e w8 ⟨u7, rfl, g7, hb8⟩
  have T8 := T7.later hb8
  have D8 : Dt w8 i ⟨u1, u2, u3, u4, u5, u6, u7⟩ := ⟨((g1.later hb6).later hb7).later hb8, ((g2.later hb6).later hb7).later hb8, (g3.later hb7).later hb8, g6.later hb8, g7⟩
  go_wp2_with fail
  refine hK.out _ _ (⟨rangeAt_later hHeld.1 hb8, rangeAt_later hHeld.2.1 hb8, rangeAt_later hHeld.2.2 hb8⟩) (fun hHeld => ?_)
  refine wpAnyH_ready (rs := [8]) (by kernel_rfl) (by simp) ?_
  refine AllReadyH.cons rfl (fun K hK => ?_) AllReadyH.nil
  rw [if_pos (by rfl)]
  simp only [List.getElem_toArray, List.getElem_cons_succ, List.getElem_cons_zero]
  go_wp2_with fail
  refine (specE LM.out ⟨u1, u2, u3, u4, u5, u6, u7⟩ w8 D8).mono ?_
  rintro e w9 ⟨he, hb9⟩
  rw [HR.out] at he
  obtain rfl : e = .returned (.tuple #[.int .i64 (r.getD 0), .bool r.isSome]) := he
  have T9 := Lib.hid (T8.later hb9)
  go_wp2_with fail
  refine hK.out _ _ (⟨rangeAt_later hHeld.1 hb9, rangeAt_later hHeld.2.1 hb9, rangeAt_later hHeld.2.2 hb9⟩) (fun hHeld => ?_)
  clear Td T5 T6 T7 T8 g1 g2 g3 g6 g7 D8 hb5 hb6 hb7 hb8 hb9 bd T4
  refine wpAnyH_take (i := 9) (v := .tuple #[.int .i64 (r.getD 0), .bool r.isSome]) rfl (by kernel_rfl) (by kernel_rfl) (by kernel_rfl) (fun _ _ _ h => h) (Or.inl ⟨by rfl, ?qb9⟩) hHeld ?_
  case qb9 => intro w hSw; go_simp
  simp only [Act.put, List.getElem_toArray, List.getElem_cons_succ, List.getElem_cons_zero, List.setIfInBounds_toArray, List.set_cons_zero, List.set_cons_succ]
  refine wpAnyH_take (i := 10) (v := .int .i64 (r.getD 0)) rfl (by kernel_rfl) (by kernel_rfl) (by kernel_rfl) (fun _ _ _ h => h) (Or.inl ⟨by rfl, ?qb10⟩) hHeld ?_
  case qb10 => intro w hSw; go_simp
  simp only [Act.put, List.getElem_toArray, List.getElem_cons_succ, List.getElem_cons_zero, List.setIfInBounds_toArray, List.set_cons_zero, List.set_cons_succ]
  refine wpAnyH_take (i := 11) (v := .bool r.isSome) rfl (by kernel_rfl) (by kernel_rfl) (by kernel_rfl) (fun _ _ _ h => h) (Or.inl ⟨by rfl, ?qb11⟩) hHeld ?_
  case qb11 => intro w hSw; go_simp
  simp only [Act.put, List.getElem_toArray, List.getElem_cons_succ, List.getElem_cons_zero, List.setIfInBounds_toArray, List.set_cons_zero, List.set_cons_succ]
  refine wpAnyH_take (i := 12) (v := .int .i64 (r.getD 0)) rfl (by kernel_rfl) (by kernel_rfl) (by kernel_rfl) (fun _ _ _ h => h) (Or.inl ⟨by rfl, ?qb12⟩) hHeld ?_
  case qb12 => intro w hSw; go_simp
  simp only [Act.put, List.getElem_toArray, List.getElem_cons_succ, List.getElem_cons_zero, List.setIfInBounds_toArray, List.set_cons_zero, List.set_cons_succ]
  refine wpAnyH_take (i := 13) (v := .bool r.isSome) rfl (by kernel_rfl) (by kernel_rfl) (by kernel_rfl) (fun _ _ _ h => h) (Or.inl ⟨by rfl, ?qb13⟩) hHeld ?_
  case qb13 => intro w hSw; go_simp
  simp only [Act.put, List.getElem_toArray, List.getElem_cons_succ, List.getElem_cons_zero, List.setIfInBounds_toArray, List.set_cons_zero, List.set_cons_succ]
  refine wpAnyH_done (by kernel_rfl) ?_ _
  clear hHeld
  -- the copies are put
  go_wp2_with (refine wpList_load_mid rfl 25 _ rfl (w.heap.size) 0 rfl _ _ T9.out.rp Tryz.underlying25 rfl sizeLP ?_)
  refine (toP LM.out a _ T9.out.d).mono ?_
  rintro e wa ⟨p1, p2, rfl, g1, g2, hba⟩
  have Ta := Lib.hid (T9.out.later hba)
  have i1 := g1.isOne
  have i2 := g2.isOne
  have Ga := Lib.hid (And.intro g1 g2)
  clear hba T9 g1 g2
  go_wp2_with (first | (refine store_abs rfl 43 _ _ rfl wa.heap.size 0 #[p1, p2] rfl rfl ?ht0 sizeIP ?ho0 ?_; exact (newthere2 wa _ _ _); exact (one2 i1 i2); intro Wa hW; have HW := Lib.hid (newR2 hW); have Tb := Lib.hid (Ta.out.later HW.out.2); clear hW) | (refine wpList_load_mid rfl 29 _ rfl (w.heap.size + 1) 0 rfl _ _ Tb.out.rs Tryz.underlying29 rfl sizeLSto ?_))
  obtain ⟨na, hna⟩ : ∃ na, na = wa.heap.size := ⟨_, rfl⟩
  have Pa : Hid (Wa.rangeAt na 0 [p1, p2] ∧ AV Wa 0 p1 i.ts ∧ SV Wa 0 i.F p2) := by rw [hna]; exact ⟨HW.out.1, Ga.out.1.later HW.out.2, Ga.out.2.later HW.out.2⟩
  rw [← hna]
  clear HW Ga hna Ta i1 i2
  refine (toS LM.out a _ Tb.out.d).mono ?_
  rintro e wb ⟨p3, p4, p5, rfl, g3, hbb⟩
  have Tc := Lib.hid (Tb.out.later hbb)
  have Pb : Hid (wb.rangeAt na 0 [p1, p2] ∧ AV wb 0 p1 i.ts ∧ SV wb 0 i.F p2) := ⟨rangeAt_later Pa.out.1 hbb, Pa.out.2.1.later hbb, Pa.out.2.2.later hbb⟩
  have i3 := g3.a.isOne
  have i4 := g3.v.isOne
  have i5 := g3.o.isOne
  have Gb := Lib.hid g3
  clear hbb Tb Pa g3
  go_wp2_with (refine store_abs rfl 45 _ _ rfl wb.heap.size 0 #[p3, p4, p5, .int .i64 i.en] rfl rfl ?ht1 sizeSto ?ho1 ?_; exact (th4 wb _ _ _ _ _); exact (one4 i3 i4 i5 rfl); intro Wb hW; have HW := Lib.hid (newR4 hW); have Td := Lib.hid (Tc.out.later HW.out.2); clear hW)
  obtain ⟨nb, hnb⟩ : ∃ nb, nb = wb.heap.size := ⟨_, rfl⟩
  have Pc : Hid ((Wb.rangeAt na 0 [p1, p2] ∧ AV Wb 0 p1 i.ts ∧ SV Wb 0 i.F p2) ∧ (Wb.rangeAt nb 0 [p3, p4, p5, .int .i64 i.en] ∧ StoV Wb p3 p4 p5 i.A i.V i.O)) := by rw [hnb]; exact ⟨⟨rangeAt_later Pb.out.1 HW.out.2, Pb.out.2.1.later HW.out.2, Pb.out.2.2.later HW.out.2⟩, HW.out.1, Gb.out.later HW.out.2⟩
  rw [← hnb]
  clear HW Gb hnb Tc i3 i4 i5 Pb
  refine (toB LM.out a _ Td.out.d).mono ?_
  rintro e wc ⟨p6, rfl, g6, hbc⟩
  have Te := Lib.hid (Td.out.later hbc)
  have Pd : Hid (((wc.rangeAt na 0 [p1, p2] ∧ AV wc 0 p1 i.ts ∧ SV wc 0 i.F p2) ∧ (wc.rangeAt nb 0 [p3, p4, p5, .int .i64 i.en] ∧ StoV wc p3 p4 p5 i.A i.V i.O)) ∧ AV wc 0 p6 i.bs) := ⟨⟨⟨rangeAt_later Pc.out.1.1 hbc, Pc.out.1.2.1.later hbc, Pc.out.1.2.2.later hbc⟩, rangeAt_later Pc.out.2.1 hbc, Pc.out.2.2.later hbc⟩, g6⟩
  clear hbc Td Pc g6
  go_wp2_with (refine wpList_load_mid rfl 33 _ rfl (w.heap.size + 2) 0 rfl _ _ Te.out.re Tryz.underlying33 rfl sizeLE ?_)
  refine (toE LM.out a _ Te.out.d).mono ?_
  rintro e wd ⟨p7, rfl, g7, hbd⟩
  have Tf := Lib.hid (Te.out.later hbd)
  have i7 := g7.isOne
  have Ge := Lib.hid g7
  have Pe : Hid (((wd.rangeAt na 0 [p1, p2] ∧ AV wd 0 p1 i.ts ∧ SV wd 0 i.F p2) ∧ (wd.rangeAt nb 0 [p3, p4, p5, .int .i64 i.en] ∧ StoV wd p3 p4 p5 i.A i.V i.O)) ∧ AV wd 0 p6 i.bs) := ⟨⟨⟨rangeAt_later Pd.out.1.1.1 hbd, Pd.out.1.1.2.1.later hbd, Pd.out.1.1.2.2.later hbd⟩, rangeAt_later Pd.out.1.2.1 hbd, Pd.out.1.2.2.later hbd⟩, Pd.out.2.later hbd⟩
  clear hbd Te Pd g7
  go_wp2_with (first | (refine store_abs rfl 51 _ _ rfl wd.heap.size 0 #[.int .i64 i.x.h.k, .int .i64 i.x.h.n, .string i.x.h.s, p7] rfl rfl ?ht2 sizeExp4 ?ho2 ?_; exact (th4 wd _ _ _ _ _); exact (one4 rfl rfl rfl i7); intro We hW; have HW := Lib.hid (newR4 hW); have Tg := Lib.hid (Tf.out.later HW.out.2); have Pf : Hid (Cp We i na nb wd.heap.size ⟨p1, p2, p3, p4, p5, p6, p7⟩) := (⟨rangeAt_later Pe.out.1.1.1 HW.out.2, rangeAt_later Pe.out.1.2.1 HW.out.2, HW.out.1, ⟨Pe.out.1.1.2.1.later HW.out.2, Pe.out.1.1.2.2.later HW.out.2, Pe.out.1.2.2.later HW.out.2, Pe.out.2.later HW.out.2, Ge.out.later HW.out.2⟩⟩); clear hW) | (refine wpList_load_mid rfl 43 _ rfl (na) 0 rfl _ _ Pf.out.rp Tryz.underlying43 rfl sizeIP ?_) | (refine wpList_load_mid rfl 45 _ rfl (nb) 0 rfl _ _ Pf.out.rs Tryz.underlying45 rfl sizeSto ?_) | (refine wpList_load_mid rfl 51 _ rfl (wd.heap.size) 0 rfl _ _ Pf.out.re Tryz.underlying51 rfl sizeExp4 ?_))
  obtain ⟨nd, hnd⟩ : ∃ nd, nd = wd.heap.size := ⟨_, rfl⟩
  rw [← hnd] at Pf ⊢
  clear HW Ge Pe Tf hnd i7
  refine (implE LM.out ⟨p1, p2, p3, p4, p5, p6, p7⟩ _ Pf.out.d).mono ?_
  rintro e wf ⟨he, hbf⟩
  rw [HR.out] at he
  obtain rfl : e = .returned (.tuple #[.int .i64 (r.getD 0), .bool r.isSome]) := he
  have Th := Lib.hid (Tg.out.later hbf)
  have Pg := Lib.hid (Pf.out.later hbf)
  have q1 : (r.getD 0 != r.getD 0) = false := by simp
  have q2 : (r.isSome != r.isSome) = false := by simp
  clear hbf Tg Pf
  go_wp2_with fail
  have bd : Below wf.heap.size wf wf.drew := (Below.refl _ wf).drew
  have Td := Th.out.later bd
  have Pd := Pg.out.later bd
  refine wp_region_held_drew (S := fun w' => w'.rangeAt na 0 (pc ⟨p1, p2, p3, p4, p5, p6, p7⟩) ∧ w'.rangeAt (w.heap.size) 0 (pc a)) (by kernel_rfl) ⟨Pd.rp, Td.rp⟩ (fun hHeld => ?_)
  refine wpAnyH_take (i := 0) (v := .agg (pc ⟨p1, p2, p3, p4, p5, p6, p7⟩).toArray) rfl (by kernel_rfl) (by kernel_rfl) (by kernel_rfl) (fun _ _ _ h => h) (yieldsIf_load_mid (by rfl) 43 _ rfl (na) (0) rfl (pc ⟨p1, p2, p3, p4, p5, p6, p7⟩) _ (fun w h => h.1) Tryz.underlying43 rfl sizeIP) hHeld ?_
  simp only [Act.put, List.getElem_toArray, List.getElem_cons_succ, List.getElem_cons_zero, List.setIfInBounds_toArray, List.set_cons_zero, List.set_cons_succ]
  refine wpAnyH_take (i := 1) (v := .agg (pc a).toArray) rfl (by kernel_rfl) (by kernel_rfl) (by kernel_rfl) (fun _ _ _ h => h) (yieldsIf_load_mid (by rfl) 25 _ rfl (w.heap.size) (0) rfl (pc a) _ (fun w h => h.2) Tryz.underlying25 rfl sizeLP) hHeld ?_
  simp only [Act.put, List.getElem_toArray, List.getElem_cons_succ, List.getElem_cons_zero, List.setIfInBounds_toArray, List.set_cons_zero, List.set_cons_succ]
  refine wpAnyH_ready (rs := [2]) (by kernel_rfl) (by simp) ?_
  refine AllReadyH.cons rfl (fun K hK => ?_) AllReadyH.nil
  rw [if_pos (by rfl)]
  simp only [List.getElem_toArray, List.getElem_cons_succ, List.getElem_cons_zero]
  go_wp2_with fail
  refine (toP LM.out a _ Td.d).mono ?_
  rintro e w20 ⟨z1, z2, rfl, h1, h2, hb20⟩
  go_wp2_with fail
  refine hK.out _ _ (⟨rangeAt_later hHeld.1 hb20, rangeAt_later hHeld.2 hb20⟩) (fun hHeld => ?_)
  have Pe := Pd.later hb20
  refine wpAnyH_ready (rs := [3]) (by kernel_rfl) (by simp) ?_
  refine AllReadyH.cons rfl (fun K hK => ?_) AllReadyH.nil
  rw [if_pos (by rfl)]
  simp only [List.getElem_toArray, List.getElem_cons_succ, List.getElem_cons_zero]
  go_wp2_with fail
  refine (eqProg_same i.ts i.F LM.out.t LM.out.f p1 p2 z1 z2 _ Pe.d.p Pe.d.f h1 h2).mono ?_
  rintro e wg ⟨rfl, hb21⟩
  go_wp2_with fail
  refine hK.out _ _ (⟨rangeAt_later hHeld.1 hb21, rangeAt_later hHeld.2 hb21⟩) (fun hHeld => ?_)
  have Thn := Lib.hid ((Td.later hb20).later hb21)
  have Pgn := Lib.hid (Pe.later hb21)
  clear bd Td Pd Pe hb20 hb21 h1 h2 Th Pg
  refine wpAnyH_take (i := 4) (v := .bool false) rfl (by kernel_rfl) (by kernel_rfl) (by kernel_rfl) (fun _ _ _ h => h) (Or.inl ⟨by rfl, ?ra4⟩) hHeld ?_
  case ra4 => intro w hSw; go_simp
  simp only [Act.put, List.getElem_toArray, List.getElem_cons_succ, List.getElem_cons_zero, List.setIfInBounds_toArray, List.set_cons_zero, List.set_cons_succ]
  refine wpAnyH_done (by kernel_rfl) ?_ _
  clear hHeld
  go_wp2_with fail
  have bd : Below wg.heap.size wg wg.drew := (Below.refl _ wg).drew
  have Td := Thn.out.later bd
  have Pd := Pgn.out.later bd
  refine wp_region_held_drew (S := fun w' => w'.rangeAt nb 0 (sc i ⟨p1, p2, p3, p4, p5, p6, p7⟩) ∧ w'.rangeAt (w.heap.size + 1) 0 (sc i a)) (by kernel_rfl) ⟨Pd.rs, Td.rs⟩ (fun hHeld => ?_)
  refine wpAnyH_take (i := 0) (v := .agg (sc i ⟨p1, p2, p3, p4, p5, p6, p7⟩).toArray) rfl (by kernel_rfl) (by kernel_rfl) (by kernel_rfl) (fun _ _ _ h => h) (yieldsIf_load_mid (by rfl) 45 _ rfl (nb) (0) rfl (sc i ⟨p1, p2, p3, p4, p5, p6, p7⟩) _ (fun w h => h.1) Tryz.underlying45 rfl sizeSto) hHeld ?_
  simp only [Act.put, List.getElem_toArray, List.getElem_cons_succ, List.getElem_cons_zero, List.setIfInBounds_toArray, List.set_cons_zero, List.set_cons_succ]
  refine wpAnyH_take (i := 1) (v := .agg (sc i a).toArray) rfl (by kernel_rfl) (by kernel_rfl) (by kernel_rfl) (fun _ _ _ h => h) (yieldsIf_load_mid (by rfl) 29 _ rfl (w.heap.size + 1) (0) rfl (sc i a) _ (fun w h => h.2) Tryz.underlying29 rfl sizeLSto) hHeld ?_
  simp only [Act.put, List.getElem_toArray, List.getElem_cons_succ, List.getElem_cons_zero, List.setIfInBounds_toArray, List.set_cons_zero, List.set_cons_succ]
  refine wpAnyH_ready (rs := [2]) (by kernel_rfl) (by simp) ?_
  refine AllReadyH.cons rfl (fun K hK => ?_) AllReadyH.nil
  rw [if_pos (by rfl)]
  simp only [List.getElem_toArray, List.getElem_cons_succ, List.getElem_cons_zero]
  go_wp2_with fail
  refine (toS LM.out a _ Td.d).mono ?_
  rintro e w20 ⟨z1, z2, z3, rfl, h1, hb20⟩
  go_wp2_with fail
  refine hK.out _ _ (⟨rangeAt_later hHeld.1 hb20, rangeAt_later hHeld.2 hb20⟩) (fun hHeld => ?_)
  have Pe := Pd.later hb20
  refine wpAnyH_ready (rs := [3]) (by kernel_rfl) (by simp) ?_
  refine AllReadyH.cons rfl (fun K hK => ?_) AllReadyH.nil
  rw [if_pos (by rfl)]
  simp only [List.getElem_toArray, List.getElem_cons_succ, List.getElem_cons_zero]
  go_wp2_with fail
  refine (eqSto_same i.A i.V i.O i.en LM.out.sto p3 p4 p5 z1 z2 z3 _ Pe.d.s h1).mono ?_
  rintro e wh ⟨rfl, hb21⟩
  go_wp2_with fail
  refine hK.out _ _ (⟨rangeAt_later hHeld.1 hb21, rangeAt_later hHeld.2 hb21⟩) (fun hHeld => ?_)
  have Thnn := Lib.hid ((Td.later hb20).later hb21)
  have Pgnn := Lib.hid (Pe.later hb21)
  clear bd Td Pd Pe hb20 hb21 h1 Thn Pgn
  refine wpAnyH_take (i := 4) (v := .bool false) rfl (by kernel_rfl) (by kernel_rfl) (by kernel_rfl) (fun _ _ _ h => h) (Or.inl ⟨by rfl, ?rb4⟩) hHeld ?_
  case rb4 => intro w hSw; go_simp
  simp only [Act.put, List.getElem_toArray, List.getElem_cons_succ, List.getElem_cons_zero, List.setIfInBounds_toArray, List.set_cons_zero, List.set_cons_succ]
  refine wpAnyH_done (by kernel_rfl) ?_ _
  clear hHeld
  go_wp2_with fail
  refine (toB LM.out a _ Thnn.out.d).mono ?_
  rintro e w22 ⟨z1, rfl, h1, hb22⟩
  have T22 := Lib.hid (Thnn.out.later hb22)
  have P22 := Lib.hid (Pgnn.out.later hb22)
  have H22 := Lib.hid h1
  clear hb22 Thnn Pgnn h1
  go_wp2_with fail
  refine (eqBindS_same i.bs (by have := LM.out.b; omega) p6 z1 _ P22.out.d.b H22.out).mono ?_
  rintro e w23 ⟨rfl, hb23⟩
  have T23 := Lib.hid (T22.out.later hb23)
  have P23 := Lib.hid (P22.out.later hb23)
  clear hb23 T22 P22 H22
  go_wp2_with fail
  have bd : Below w23.heap.size w23 w23.drew := (Below.refl _ w23).drew
  have Td := T23.out.later bd
  have Pd := P23.out.later bd
  refine wp_region_held_drew (S := fun w' => w'.rangeAt nd 0 (ec i ⟨p1, p2, p3, p4, p5, p6, p7⟩) ∧ w'.rangeAt (w.heap.size + 2) 0 (ec i a)) (by kernel_rfl) ⟨Pd.re, Td.re⟩ (fun hHeld => ?_)
  refine wpAnyH_take (i := 0) (v := .agg (ec i ⟨p1, p2, p3, p4, p5, p6, p7⟩).toArray) rfl (by kernel_rfl) (by kernel_rfl) (by kernel_rfl) (fun _ _ _ h => h) (yieldsIf_load_mid (by rfl) 51 _ rfl (nd) (0) rfl (ec i ⟨p1, p2, p3, p4, p5, p6, p7⟩) _ (fun w h => h.1) Tryz.underlying51 rfl sizeExp4) hHeld ?_
  simp only [Act.put, List.getElem_toArray, List.getElem_cons_succ, List.getElem_cons_zero, List.setIfInBounds_toArray, List.set_cons_zero, List.set_cons_succ]
  refine wpAnyH_take (i := 1) (v := .agg (ec i a).toArray) rfl (by kernel_rfl) (by kernel_rfl) (by kernel_rfl) (fun _ _ _ h => h) (yieldsIf_load_mid (by rfl) 33 _ rfl (w.heap.size + 2) (0) rfl (ec i a) _ (fun w h => h.2) Tryz.underlying33 rfl sizeLE) hHeld ?_
  simp only [Act.put, List.getElem_toArray, List.getElem_cons_succ, List.getElem_cons_zero, List.setIfInBounds_toArray, List.set_cons_zero, List.set_cons_succ]
  refine wpAnyH_ready (rs := [2]) (by kernel_rfl) (by simp) ?_
  refine AllReadyH.cons rfl (fun K hK => ?_) AllReadyH.nil
  rw [if_pos (by rfl)]
  simp only [List.getElem_toArray, List.getElem_cons_succ, List.getElem_cons_zero]
  go_wp2_with fail
  refine (toE LM.out a _ Td.d).mono ?_
  rintro e w20 ⟨z2, rfl, h1, hb20⟩
  go_wp2_with fail
  refine hK.out _ _ (⟨rangeAt_later hHeld.1 hb20, rangeAt_later hHeld.2 hb20⟩) (fun hHeld => ?_)
  have Pe := Pd.later hb20
  refine wpAnyH_ready (rs := [3]) (by kernel_rfl) (by simp) ?_
  refine AllReadyH.cons rfl (fun K hK => ?_) AllReadyH.nil
  rw [if_pos (by rfl)]
  simp only [List.getElem_toArray, List.getElem_cons_succ, List.getElem_cons_zero]
  go_wp2_with fail
  refine (eqExp_is i.x LM.out.x _ p7 z2 Pe.d.e h1).mono ?_
  rintro e w24 ⟨rfl, hb21⟩
  go_wp2_with fail
  refine hK.out _ _ (⟨rangeAt_later hHeld.1 hb21, rangeAt_later hHeld.2 hb21⟩) (fun hHeld => ?_)
  have T23n := Lib.hid ((Td.later hb20).later hb21)
  have P23n := Lib.hid (Pe.later hb21)
  clear bd Td Pd Pe hb20 hb21 h1 T23 P23
  refine wpAnyH_take (i := 4) (v := .bool false) rfl (by kernel_rfl) (by kernel_rfl) (by kernel_rfl) (fun _ _ _ h => h) (Or.inl ⟨by rfl, ?rc4⟩) hHeld ?_
  case rc4 => intro w hSw; go_simp
  simp only [Act.put, List.getElem_toArray, List.getElem_cons_succ, List.getElem_cons_zero, List.setIfInBounds_toArray, List.set_cons_zero, List.set_cons_succ]
  refine wpAnyH_done (by kernel_rfl) ?_ _
  clear hHeld
  go_wp2
  go_ret
  exact ⟨rfl, T23n.out.b⟩
set_option maxRecDepth 100000 in
theorem lifted (os : Os) (started : os.Started) (H : Type) (enc : TypeId × Value → H) :
    ReturnsInHanded {} Tryz.checked os 3 .any (Rows.fnExactEvalSpec.pre6 enc Tryz.prog Tryz.f3 Rows.fnExactEvalRow.domain false) (Rows.fnExactEvalSpec.post enc Tryz.prog Tryz.f3 false true false false) := by
  refine returnsInHanded_of_change (C := Tryz.checked) own started (by kernel_rfl) Tryz.func3
    (ChangeSpec.witness6 (enc := enc) (C := Tryz.checked) false ⟨#[], #[.agg #[.slice none 0 0, .slice none 0 0], .agg #[.slice none 0 0, .slice none 0 0, .slice none 0 0, .int .i64 0], .slice none 0 0, .agg #[.int .i64 0, .int .i64 0, .string ByteArray.empty, .slice none 0 0]], []⟩ 8 (by kernel_rfl) (by kernel_rfl) (by kernel_rfl) (by kernel_rfl)) ?_
  intro W base args ds gs before hval0 hW hcnd _
  have hW' := hW
  obtain ⟨p, q, hA0, hV, rfl, hfz, hnd⟩ := hW
  have hA : DataW.TrodAll enc Tryz.prog W 0 (fun _ => true) true Tryz.f3.params.toList args.toList ds p := hA0
  have hval : ∀ (j : Nat) t v, Tryz.f3.params[j]? = some t → args[j]? = some v → Value.okWide Tryz.prog W .any base t v := hval0
  rw [Tryz.params3] at hA hval
  obtain ⟨v0, vs0, d0, ds0, p0, q0, hargs, rfl, rfl, h0, r0⟩ := trodAll_cons hA
  obtain ⟨v1, vs1, d1, ds1, p1, q1, rfl, rfl, rfl, h1, r1⟩ := trodAll_cons r0
  obtain ⟨v2, vs2, d2, ds2, p2, q2, rfl, rfl, rfl, h2, r2⟩ := trodAll_cons r1
  obtain ⟨v3, vs3, d3, ds3, p3, q3, rfl, rfl, rfl, h3, r3⟩ := trodAll_cons r2
  obtain ⟨rfl, rfl, rfl⟩ := trodAll_nil r3
  obtain rfl : args = #[v0, v1, v2, v3] := by cases args; simp_all
  obtain ⟨rfl, rfl⟩ := trodVars_none hV
  obtain ⟨cs0, rfl, _⟩ := okWide_struct Tryz.underlying25 (hval 0 25 v0 rfl rfl)
  obtain ⟨cs1, rfl, _⟩ := okWide_struct Tryz.underlying29 (hval 1 29 v1 rfl rfl)
  obtain ⟨a2, len2, cap2, rfl⟩ := okWide_slice Tryz.underlying30 (hval 2 30 v2 rfl rfl)
  obtain ⟨cs3, rfl, _⟩ := okWide_struct Tryz.underlying33 (hval 3 33 v3 rfl rfl)
  have k0 := h0
  have k1 := h1
  have k2 := h2
  have k3 := h3
  have lt0 : ∀ x ∈ p0, x.block < W.heap.size := by obtain ⟨m, hm⟩ := k0; exact DataW.trod_lt m _ _ _ hm
  have lt1 : ∀ x ∈ p1, x.block < W.heap.size := by obtain ⟨m, hm⟩ := k1; exact DataW.trod_lt m _ _ _ hm
  have lt2 : ∀ x ∈ p2, x.block < W.heap.size := by obtain ⟨m, hm⟩ := k2; exact DataW.trod_lt m _ _ _ hm
  have lt3 : ∀ x ∈ p3, x.block < W.heap.size := by obtain ⟨m, hm⟩ := k3; exact DataW.trod_lt m _ _ _ hm
  obtain ⟨ts, F, va, vb, hcs0, e2, e3, e4, e5, e6, e7⟩ : ∃ (ts : List AR) (F : SF) (va vb : Value), cs0 = #[va, vb] ∧ (∀ t ∈ ts, t.s.size ≤ 9223372036854775807) ∧ ts.length ≤ 9223372036854775807 ∧ sok F ∧ slen F ≤ 9223372036854775807 ∧ AV W 0 va ts ∧ SV W 0 F vb := by
    obtain ⟨fuel, hf⟩ := h0
    obtain ⟨ts, F, va, vb, e, h2, h3, h4, h5, h6, h7⟩ := open_prog hf
    have e2 : cs0.toList = [va, vb] := by simpa [Value.cells] using e
    exact ⟨ts, F, va, vb, by rw [← e2], h2, h3, h4, h5, h6, h7⟩
  obtain ⟨A, V, O, en, sa, sv, so, hcs1, f1, f2⟩ : ∃ (A : List (List Int)) (V O : List Int) (en : Int) (sa sv so : Value), cs1 = #[sa, sv, so, .int .i64 en] ∧ StoG A V O ∧ StoV W sa sv so A V O := by
    obtain ⟨fuel, hf⟩ := h1
    obtain ⟨A, V, O, en, sa, sv, so, e, g1, g2⟩ := open_sto hf
    have e2 : cs1.toList = [sa, sv, so, .int .i64 en] := by simpa [Value.cells] using e
    exact ⟨A, V, O, en, sa, sv, so, by rw [← e2], g1, g2⟩
  obtain ⟨bs, m1, m2, m3⟩ : ∃ (bs : List AR), (∀ t ∈ bs, t.s.size ≤ 9223372036854775807) ∧ bs.length ≤ 9223372036854775807 ∧ AV W 0 (.slice a2 len2 cap2) bs := by
    obtain ⟨fuel, hf⟩ := h2
    obtain ⟨u, bs, e, g1, g2, g3⟩ := open_binds hf
    have e' : [Value.slice a2 len2 cap2] = [u] := by simpa [Value.cells] using e
    injection e' with e'
    subst e'
    exact ⟨bs, g1, g2, g3⟩
  obtain ⟨x, xv, hcs3, x1, x2⟩ : ∃ (x : X) (v : Value), cs3 = (xcells x v).toArray ∧ xok x ∧ EV W 0 x.l v := by
    obtain ⟨fuel, hf⟩ := h3
    obtain ⟨x, v, e, g1, g2⟩ := open_exp hf
    have e2 : cs3.toList = xcells x v := by simpa [Value.cells] using e
    exact ⟨x, v, by rw [← e2], g1, g2⟩
  subst hcs0
  subst hcs1
  subst hcs3
  clear hA0 hval0
  refine (walk ⟨ts, F, A, V, O, en, bs, x⟩ ⟨va, vb, sa, sv, so, .slice a2 len2 cap2, xv⟩ ⟨e2, e3, e4, e5, f1, m1, m2, x1⟩ W ⟨e6, e7, f2, m3, x2⟩).mono fun e W' ⟨he, bel⟩ => ?_
  subst he
  exact ⟨_, rfl, _, _, _, [], _, [], hW', trodAll_mk1 (shut_bool Tryz.underlying4 _), (trodAll_cons_mk (Below.trod laidOut (by kernel_rfl) (of_decide_eq_true (by kernel_rfl)) k0 bel lt0) (trodAll_cons_mk (Below.trod laidOut (by kernel_rfl) (of_decide_eq_true (by kernel_rfl)) k1 bel lt1) (trodAll_cons_mk (Below.trod laidOut (by kernel_rfl) (of_decide_eq_true (by kernel_rfl)) k2 bel lt2) (trodAll_cons_mk (Below.trod laidOut (by kernel_rfl) (of_decide_eq_true (by kernel_rfl)) k3 bel lt3) trodAll_mk0)))), rfl, bel.frame _, fun h => by cases h⟩

theorem over : Rows.fnExactEvalRow.holds Tryz.pinned (OpenSpec.ofChange Rows.fnExactEvalSpec) :=
  OpenClaim.holds_of_wide 3 Tryz.f3 rfl rfl rfl rfl rfl rfl rfl ⟨rfl, rfl, rfl, rfl, rfl⟩ rfl rfl rfl rfl rfl (by kernel_rfl) Tryz.func3 (by kernel_rfl)
    (of_decide_eq_true (by kernel_rfl)) (by unfold Func.isWrapper; first | (rw [if_pos (by decide +kernel)]; kernel_rfl) | (rw [if_neg (by decide +kernel)]; exact ⟨rfl, rfl⟩))
    (fun os started H enc _ => lifted os started H enc)

end Go.Proofs.YtcafpaahbbachabGreat.fnExactEval
namespace Go.Proofs.YtcafpaahbbachabGreat
/-- THE STATEMENT -/
theorem fnExactEval_holds : Rows.FnExactEvalSaid := fnExactEval.over
#print axioms fnExactEval_holds
end Go.Proofs.YtcafpaahbbachabGreat
