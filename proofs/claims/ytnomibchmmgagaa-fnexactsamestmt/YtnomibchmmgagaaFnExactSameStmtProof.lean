/-
  PROVED: at the landed commit laws.FnExactSameStmt returns true for every two statements: impl.SameStmt answers as the specification's SameStmt and writes into no argument; no condition.
-/
import Derived.Test.YtnomibchmmgagaaRows
import Derived.Test.YtnomibchmmgagaaAstOpen
import Derived.Test.YtnomibchmmgagaaAstSzS
import Derived.Test.YtnomibchmmgagaaAstToS
import Derived.Test.YtnomibchmmgagaaAstAllS
import Derived.WalkKit
import Derived.ProofKit
import Derived.OpenShut
import Derived.ShutString
import Derived.ChangeOld
import Derived.Below
namespace Go.Proofs.Ytnomibchmmgagaa.fnExactSameStmt
open Go.ChangeShapes Go.WideShapes Go.ChangeAt Go.RowKit
set_option linter.unusedVariables false
set_option linter.unusedSimpArgs false

theorem own : ownKnob Try.prog.godebug = none := by kernel_rfl
theorem laidOut : laidOutB Try.prog = true := by kernel_rfl
/-- One argument, or a copy of one. -/
structure Vals where
  h : SH
  l : SF
  v1 : Value
  v2 : Value
  v3 : Value
  v4 : Value
  v : Value
abbrev Vals.cs (x : Vals) : List Value := scells x.h x.v1 x.v2 x.v3 x.v4 x.v
structure Ev (w : World) (x : Vals) : Prop where
  hv : HV w 0 x.h x.v1 x.v2 x.v3 x.v4
  sv : SV w 0 x.l x.v
theorem Ev.later {w w' : World} {x : Vals} (e : Ev w x) (hb : Below w.heap.size w w') : Ev w' x := ⟨e.hv.later hb, e.sv.later hb⟩
/-- A copy: the same head and body. -/
structure Cp (x y : Vals) : Prop where
  h : y.h = x.h
  l : y.l = x.l
def ssz (x : Vals) : Nat := hsize x.h + ssize x.l
def vok (x : Vals) : Prop := x.h.s.size ≤ 9223372036854775807 ∧ xok x.h.x1 ∧ xok x.h.x2 ∧ xok x.h.x3 ∧ xok x.h.x4 ∧ slen x.l ≤ 9223372036854775807 ∧ sok x.l
theorem allSmall_of : ∀ F : SF, ssize F ≤ 10000000 → allSmall F
  | .nil, _ => trivial
  | .node _ _ h l r, e => by
    simp only [ssize, hsize, xsize] at e
    have a1 := enodes_le h.x1.l; have a2 := enodes_le h.x2.l; have a3 := enodes_le h.x3.l; have a4 := enodes_le h.x4.l
    exact ⟨⟨by omega, by omega, by omega, by omega⟩, allSmall_of l (by omega), allSmall_of r (by omega)⟩
theorem small_of {h : SH} (e : hsize h ≤ 10000000) : small h := by
  simp only [hsize, xsize] at e
  have a1 := enodes_le h.x1.l; have a2 := enodes_le h.x2.l; have a3 := enodes_le h.x3.l; have a4 := enodes_le h.x4.l
  exact ⟨by omega, by omega, by omega, by omega⟩
/-- The two arguments in their boxes. -/
structure Bx (w0 w : World) (N : Nat) (x y : Vals) : Prop where
  r1 : w.rangeAt N 0 x.cs
  r2 : w.rangeAt (N + 1) 0 y.cs
  e1 : Ev w x
  e2 : Ev w y
  low : Below w0.heap.size w0 w
theorem Bx.later {w0 w w' : World} {N : Nat} {x y : Vals} (t : Bx w0 w N x y) (hb : Below w.heap.size w w') : Bx w0 w' N x y :=
  ⟨rangeAt_later t.r1 hb, rangeAt_later t.r2 hb, t.e1.later hb, t.e2.later hb, t.low.trans (hb.mono t.low.size)⟩
theorem Bx.start {w : World} {x y : Vals} (t : TypeId) (ha : Ev w x) (hb : Ev w y) : Bx w ((w.alloc (.cells x.cs.toArray t)).alloc (.cells y.cs.toArray t)) w.heap.size x y := by
  obtain ⟨h1, h2, h3⟩ := two_blk w x.cs.toArray y.cs.toArray t t
  exact ⟨h1, h2, ha.later h3, hb.later h3, h3⟩
/-- A copy in a variable. -/
structure Gt (w : World) (n : Nat) (v : Vals) : Prop where
  rg : w.rangeAt n 0 v.cs
  ev : Ev w v
theorem Gt.later {w w' : World} {n : Nat} {v : Vals} (t : Gt w n v) (hb : Below w.heap.size w w') : Gt w' n v := ⟨rangeAt_later t.rg hb, t.ev.later hb⟩
theorem toX (x : Vals) (hx : ssz x ≤ 1048576) (w : World) (hv : Ev w x) : Calls Try.prog 29 #[.agg x.cs.toArray] w fun e w' => ∃ v', e = .returned (.agg (Vals.cs v').toArray) ∧ (Cp x v' ∧ Ev w' v') ∧ Below w.heap.size w w' := by
  unfold ssz hsize at hx
  exact (toStmt_of x.h x.l (by omega) (by omega) (by omega) (by omega) (fun w v a => toStmtS_is x.l (by omega) w v a) w x.v1 x.v2 x.v3 x.v4 x.v hv.hv hv.sv).mono fun e w' ⟨u1, u2, u3, u4, u, h1, h2, h3, h4⟩ => ⟨⟨x.h, x.l, u1, u2, u3, u4, u⟩, h1, ⟨⟨rfl, rfl⟩, ⟨h2.low, h3.low⟩⟩, h4⟩
theorem eqX (x y : Vals) (z : Vals) (hx : ssz z ≤ 1048576) (w : World) (ca : Cp z x) (cb : Cp z y) (ha : Ev w x) (hb : Ev w y) : Calls Try.prog 30 #[.agg x.cs.toArray, .agg y.cs.toArray] w fun e w' => e = .returned (.bool true) ∧ Below w.heap.size w w' := by
  obtain ⟨xh, xl, x1, x2, x3, x4, xv⟩ := x
  obtain ⟨yh, yl, y1, y2, y3, y4, yv⟩ := y
  obtain ⟨e1, e2⟩ := ca
  obtain ⟨e3, e4⟩ := cb
  subst e1 e2 e3 e4
  unfold ssz hsize at hx
  exact eqStmt_of z.h z.l (by omega) (by omega) (by omega) (by omega) (fun w va vb a b => eqStmtS_is z.l (by omega) w va vb a b) w x1 x2 x3 x4 xv y1 y2 y3 y4 yv ha.hv ha.sv hb.hv hb.sv
theorem szX (x : Vals) (hx : vok x) (w : World) (left : Int) (hv : Ev w x) (h0 : 0 ≤ left) (h1 : left ≤ 1048576) : Calls Try.prog 28 #[.agg x.cs.toArray, .int .i64 left] w (Sz (ssz x) left w) :=
  szStmt_of x.h x.l hx.1 hx.2.1 hx.2.2.1 hx.2.2.2.1 hx.2.2.2.2.1 (fun w v left a b c => szStmtS_is x.l hx.2.2.2.2.2.2 hx.2.2.2.2.2.1 w v left a b c) w x.v1 x.v2 x.v3 x.v4 x.v left hv.hv hv.sv h0 h1
theorem sameSpec (x y : Vals) (hx : ssz x ≤ 1048576) (hy : ssz y ≤ 1048576) (u v : Vals) (cu : Cp x u) (cv : Cp y v) (w : World) (hu : Ev w u) (hv : Ev w v) : Calls Try.prog 22 #[.agg u.cs.toArray, .agg v.cs.toArray] w fun e w' => e = .returned (.bool (ssameH x.h y.h && ssame x.l y.l)) ∧ Below w.heap.size w w' := by
  obtain ⟨uh, ul, u1, u2, u3, u4, uv⟩ := u
  obtain ⟨vh, vl, v1, v2, v3, v4, vv⟩ := v
  obtain ⟨e1, e2⟩ := cu
  obtain ⟨e3, e4⟩ := cv
  subst e1 e2 e3 e4
  unfold ssz at hx hy
  have s1 := snodes_le x.l; have s2 := snodes_le y.l
  exact spec_SameStmt x.h y.h x.l y.l (small_of (by omega)) (small_of (by omega)) (allSmall_of _ (by omega)) (allSmall_of _ (by omega)) (by omega) (by omega) w u1 u2 u3 u4 uv v1 v2 v3 v4 vv hu.hv hv.hv hu.sv hv.sv
theorem sameImpl (x y : Vals) (hx : ssz x ≤ 1048576) (u v : Vals) (cu : Cp x u) (cv : Cp y v) (w : World) (hu : Ev w u) (hv : Ev w v) : Calls Try.prog 21 #[.agg u.cs.toArray, .agg v.cs.toArray] w fun e w' => e = .returned (.bool (ssameH x.h y.h && ssame x.l y.l)) ∧ Below w.heap.size w w' := by
  obtain ⟨uh, ul, u1, u2, u3, u4, uv⟩ := u
  obtain ⟨vh, vl, v1, v2, v3, v4, vv⟩ := v
  obtain ⟨e1, e2⟩ := cu
  obtain ⟨e3, e4⟩ := cv
  subst e1 e2 e3 e4
  unfold ssz at hx
  have s1 := snodes_le x.l
  exact impl_SameStmt x.h y.h x.l y.l (small_of (by omega)) (allSmall_of _ (by omega)) (by omega) w u1 u2 u3 u4 uv v1 v2 v3 v4 vv hu.hv hu.sv hv.hv hv.sv
theorem oneV (x : Vals) (w : World) (e : Ev w x) : x.cs.toArray.all (·.oneCell') = true := oneS x.h x.v1 x.v2 x.v3 x.v4 x.v e.hv.e1.isOne e.hv.e2.isOne e.hv.e3.isOne e.hv.e4.isOne e.sv.isOne
set_option maxHeartbeats 4000000 in
set_option maxRecDepth 100000 in
theorem walk (x y : Vals) (hx : vok x) (hy : vok y) (w : World) (ha : Ev w x) (hb : Ev w y) :
    Calls Try.prog 7 #[.agg x.cs.toArray, .agg y.cs.toArray] w fun e w' => e = .returned (.bool true) ∧ Below w.heap.size w w' := by
  have HX := Lib.hid (And.intro hx hy)
  have T0 := Lib.hid (Bx.start 50 ha hb)
  clear hx hy ha hb
  go_enter Try.func7, Try.ntmps7
  go_wp2_with (refine wpList_load_mid rfl 50 _ rfl w.heap.size 0 rfl _ _ T0.out.r1 Try.underlying50 rfl sizeLS ?_)
  refine (szX x HX.out.1 _ 1048576 T0.out.e1 (by omega) (by omega)).mono ?_
  rintro e w1 ⟨rfl, hb1⟩
  have T1 := Lib.hid (T0.out.later hb1)
  clear hb1 T0
  by_cases hd : (1048576 : Int) < (ssz x : Int)
  · rw [if_pos hd]
    go_wp2
    go_ret
    exact ⟨rfl, T1.out.low⟩
  rw [if_neg hd]
  obtain ⟨L, hL⟩ : ∃ L : Int, 1048576 - (ssz x : Int) = L := ⟨_, rfl⟩
  rw [hL]
  have hL0 : ¬ L < 0 := by omega
  have hL2 : 0 ≤ L := by omega
  have hL3 : L ≤ 1048576 := by omega
  have HL := Lib.hid hL
  clear hL
  go_wp2_with (refine wpList_load_mid rfl 50 _ rfl (w.heap.size + 1) 0 rfl _ _ T1.out.r2 Try.underlying50 rfl sizeLS ?_)
  refine (szX y HX.out.2 _ L T1.out.e2 hL2 hL3).mono ?_
  rintro e w2 ⟨rfl, hb2⟩
  have T2 := Lib.hid (T1.out.later hb2)
  clear hb2 T1
  by_cases hd2 : L < (ssz y : Int)
  · rw [if_pos hd2]
    go_wp2
    go_ret
    exact ⟨rfl, T2.out.low⟩
  rw [if_neg hd2]
  have kx : ssz x ≤ 1048576 := by omega
  have ky : ssz y ≤ 1048576 := by omega
  have hn2 : ¬ L - (ssz y : Int) < 0 := by omega
  have HK := Lib.hid (And.intro (And.intro kx ky) trivial)
  obtain ⟨tv, htv⟩ : ∃ tv, (ssameH x.h y.h && ssame x.l y.l) = tv := ⟨_, rfl⟩
  have Htv := Lib.hid htv
  clear hd hd2 hL0 hL2 hL3 kx ky htv
  go_wp2_with fail
  have T2d := T2.out.later (show Below w2.heap.size w2 w2.drew from (Below.refl _ w2).drew)
  refine wp_region_held_drew (S := fun w' => w'.rangeAt w.heap.size 0 x.cs ∧ w'.rangeAt (w.heap.size + 1) 0 y.cs) (by kernel_rfl) ⟨T2d.r1, T2d.r2⟩ (fun hHeld => ?_)
  refine wpAnyH_take (i := 0) (v := .agg x.cs.toArray) rfl (by kernel_rfl) (by kernel_rfl) (by kernel_rfl) (fun _ _ _ h => h) (yieldsIf_load_mid (by rfl) 50 _ rfl (w.heap.size) (0) rfl x.cs _ (fun w h => h.1) Try.underlying50 rfl sizeLS) hHeld ?_
  simp only [Act.put, List.getElem_toArray, List.getElem_cons_succ, List.getElem_cons_zero, List.setIfInBounds_toArray, List.set_cons_zero, List.set_cons_succ]
  refine wpAnyH_take (i := 2) (v := .agg y.cs.toArray) rfl (by kernel_rfl) (by kernel_rfl) (by kernel_rfl) (fun _ _ _ h => h) (yieldsIf_load_mid (by rfl) 50 _ rfl (w.heap.size + 1) (0) rfl y.cs _ (fun w h => h.2) Try.underlying50 rfl sizeLS) hHeld ?_
  simp only [Act.put, List.getElem_toArray, List.getElem_cons_succ, List.getElem_cons_zero, List.setIfInBounds_toArray, List.set_cons_zero, List.set_cons_succ]
  refine wpAnyH_ready (rs := [1]) (by kernel_rfl) (by simp) ?_
  refine AllReadyH.cons rfl (fun K hK => ?_) AllReadyH.nil
  rw [if_pos (by rfl)]
  simp only [List.getElem_toArray, List.getElem_cons_succ, List.getElem_cons_zero]
  go_wp2_with fail
  refine (toX x HK.out.1.1 _ T2d.e1).mono ?_
  rintro e w3 ⟨u1, rfl, g1, hb3⟩
  go_wp2_with fail
  refine hK.out _ _ (⟨rangeAt_later hHeld.1 hb3, rangeAt_later hHeld.2 hb3⟩) (fun hHeld => ?_)
  have T3 := T2d.later hb3
  refine wpAnyH_ready (rs := [3]) (by kernel_rfl) (by simp) ?_
  refine AllReadyH.cons rfl (fun K hK => ?_) AllReadyH.nil
  rw [if_pos (by rfl)]
  simp only [List.getElem_toArray, List.getElem_cons_succ, List.getElem_cons_zero]
  go_wp2_with fail
  refine (toX y HK.out.1.2 _ T3.e2).mono ?_
  rintro e w4 ⟨u2, rfl, g2, hb4⟩
  go_wp2_with fail
  refine hK.out _ _ (⟨rangeAt_later hHeld.1 hb4, rangeAt_later hHeld.2 hb4⟩) (fun hHeld => ?_)
  have T4 := T3.later hb4
  have g1' := g1.2.later hb4
  refine wpAnyH_ready (rs := [4]) (by kernel_rfl) (by simp) ?_
  refine AllReadyH.cons rfl (fun K hK => ?_) AllReadyH.nil
  rw [if_pos (by rfl)]
  simp only [List.getElem_toArray, List.getElem_cons_succ, List.getElem_cons_zero]
  go_wp2_with fail
  refine (sameSpec x y HK.out.1.1 HK.out.1.2 u1 u2 g1.1 g2.1 _ g1' g2.2).mono ?_
  rintro e w5 ⟨rfl, hb5⟩
  go_wp2_with fail
  refine hK.out _ _ (⟨rangeAt_later hHeld.1 hb5, rangeAt_later hHeld.2 hb5⟩) (fun hHeld => ?_)
  rw [Htv.out]
  have T5 := Lib.hid (T4.later hb5)
  clear T2d T3 T4 g1 g2 g1' hb3 hb4 hb5 T2
  refine wpAnyH_take (i := 5) (v := .bool tv) rfl (by kernel_rfl) (by kernel_rfl) (by kernel_rfl) (fun _ _ _ h => h) (Or.inl ⟨by rfl, ?ya5⟩) hHeld ?_
  case ya5 => intro w hSw; go_simp
  simp only [Act.put, List.getElem_toArray, List.getElem_cons_succ, List.getElem_cons_zero, List.setIfInBounds_toArray, List.set_cons_zero, List.set_cons_succ]
  refine wpAnyH_done (by kernel_rfl) ?_ _
  clear hHeld
  go_wp2_with (refine wpList_load_mid rfl 50 _ rfl w.heap.size 0 rfl _ _ T5.out.r1 Try.underlying50 rfl sizeLS ?_)
  refine (toX x HK.out.1.1 _ T5.out.e1).mono ?_
  rintro e w6 ⟨u7, rfl, g7, hb6⟩
  have T6 := Lib.hid (T5.out.later hb6)
  have i7 := oneV u7 _ g7.2
  have G7 := Lib.hid g7
  clear hb6 T5 g7
  go_wp2_with (first | (refine store_abs rfl 30 _ _ rfl _ _ _ rfl rfl ?ht sizeIS ?ho ?_; exact (newthere w6 _); exact i7; intro W7 hW; have HW := newblkS u7.h u7.v1 u7.v2 u7.v3 u7.v4 u7.v hW; have P7 : Hid (Gt W7 w6.heap.size u7) := ⟨HW.1, G7.out.2.later HW.2⟩; have T7 := Lib.hid (T6.out.later HW.2); have D7 := Lib.hid G7.out.1; clear hW HW T6 G7 i7) | (refine wpList_load_mid rfl 50 _ rfl (w.heap.size + 1) 0 rfl _ _ T7.out.r2 Try.underlying50 rfl sizeLS ?_))
  obtain ⟨n7, hn7⟩ : ∃ n7, w6.heap.size = n7 := ⟨_, rfl⟩
  rw [hn7] at P7 ⊢
  clear hn7
  refine (toX y HK.out.1.2 _ T7.out.e2).mono ?_
  rintro e w8 ⟨u8, rfl, g8, hb8⟩
  have T8 := Lib.hid (T7.out.later hb8)
  have P8 := Lib.hid (P7.out.later hb8)
  have i8 := oneV u8 _ g8.2
  have G8 := Lib.hid g8
  clear hb8 T7 P7 g8
  go_wp2_with (first | (refine store_abs rfl 30 _ _ rfl _ _ _ rfl rfl ?ht2 sizeIS ?ho2 ?_; exact (newthere w8 _); exact i8; intro W9 hW; have HW := newblkS u8.h u8.v1 u8.v2 u8.v3 u8.v4 u8.v hW; have Q9 : Hid (Gt W9 w8.heap.size u8) := ⟨HW.1, G8.out.2.later HW.2⟩; have P9 := Lib.hid (P8.out.later HW.2); have T9 := Lib.hid (T8.out.later HW.2); have D8 := Lib.hid G8.out.1; clear hW HW T8 G8 i8 P8) | (refine wpList_load_mid rfl 30 _ rfl n7 0 rfl _ _ P9.out.rg Try.underlying30 rfl sizeIS ?_) | (refine wpList_load_mid rfl 30 _ rfl w8.heap.size 0 rfl _ _ Q9.out.rg Try.underlying30 rfl sizeIS ?_))
  obtain ⟨n9, hn9⟩ : ∃ n9, w8.heap.size = n9 := ⟨_, rfl⟩
  rw [hn9] at Q9 ⊢
  clear hn9
  refine (sameImpl x y HK.out.1.1 u7 u8 D7.out D8.out _ P9.out.ev Q9.out.ev).mono ?_
  rintro e wa ⟨rfl, hba⟩
  rw [Htv.out]
  have Ta := Lib.hid (T9.out.later hba)
  have Pa := Lib.hid (P9.out.later hba)
  have Qa := Lib.hid (Q9.out.later hba)
  clear hba T9 P9 Q9
  have hbb : (tv != tv) = false := by cases tv <;> rfl
  go_wp2_with fail
  have bd : Below wa.heap.size wa wa.drew := (Below.refl _ wa).drew
  have Td := Ta.out.later bd
  have Pd := Pa.out.later bd
  refine wp_region_held_drew (S := fun w' => w'.rangeAt n7 0 (u7.cs) ∧ w'.rangeAt w.heap.size 0 x.cs) (by kernel_rfl) ⟨Pd.rg, Td.r1⟩ (fun hHeld => ?_)
  refine wpAnyH_take (i := 0) (v := .agg (u7.cs).toArray) rfl (by kernel_rfl) (by kernel_rfl) (by kernel_rfl) (fun _ _ _ h => h) (yieldsIf_load_mid (by rfl) 30 _ rfl (n7) (0) rfl (u7.cs) _ (fun w h => h.1) Try.underlying30 rfl sizeIS) hHeld ?_
  simp only [Act.put, List.getElem_toArray, List.getElem_cons_succ, List.getElem_cons_zero, List.setIfInBounds_toArray, List.set_cons_zero, List.set_cons_succ]
  refine wpAnyH_take (i := 1) (v := .agg x.cs.toArray) rfl (by kernel_rfl) (by kernel_rfl) (by kernel_rfl) (fun _ _ _ h => h) (yieldsIf_load_mid (by rfl) 50 _ rfl (w.heap.size) (0) rfl x.cs _ (fun w h => h.2) Try.underlying50 rfl sizeLS) hHeld ?_
  simp only [Act.put, List.getElem_toArray, List.getElem_cons_succ, List.getElem_cons_zero, List.setIfInBounds_toArray, List.set_cons_zero, List.set_cons_succ]
  refine wpAnyH_ready (rs := [2]) (by kernel_rfl) (by simp) ?_
  refine AllReadyH.cons rfl (fun K hK => ?_) AllReadyH.nil
  rw [if_pos (by rfl)]
  simp only [List.getElem_toArray, List.getElem_cons_succ, List.getElem_cons_zero]
  go_wp2_with fail
  refine (toX x HK.out.1.1 _ Td.e1).mono ?_
  rintro e wb ⟨ub, rfl, gb, hbb2⟩
  go_wp2_with fail
  refine hK.out _ _ (⟨rangeAt_later hHeld.1 hbb2, rangeAt_later hHeld.2 hbb2⟩) (fun hHeld => ?_)
  have Pb := Pd.later hbb2
  refine wpAnyH_ready (rs := [3]) (by kernel_rfl) (by simp) ?_
  refine AllReadyH.cons rfl (fun K hK => ?_) AllReadyH.nil
  rw [if_pos (by rfl)]
  simp only [List.getElem_toArray, List.getElem_cons_succ, List.getElem_cons_zero]
  go_wp2_with fail
  refine (eqX u7 ub x HK.out.1.1 _ D7.out gb.1 Pb.ev gb.2).mono ?_
  rintro e wc ⟨rfl, hbc⟩
  go_wp2_with fail
  refine hK.out _ _ (⟨rangeAt_later hHeld.1 hbc, rangeAt_later hHeld.2 hbc⟩) (fun hHeld => ?_)
  have Bc := bd.trans ((hbb2.trans (hbc.mono hbb2.size)).mono bd.size)
  have Tc := Lib.hid (Ta.out.later Bc)
  have Qc := Lib.hid (Qa.out.later Bc)
  clear bd Td Pd Pb gb hbb2 hbc Bc Ta Pa Qa
  refine wpAnyH_take (i := 4) (v := .bool false) rfl (by kernel_rfl) (by kernel_rfl) (by kernel_rfl) (fun _ _ _ h => h) (Or.inl ⟨by rfl, ?yb4⟩) hHeld ?_
  case yb4 => intro w hSw; go_simp
  simp only [Act.put, List.getElem_toArray, List.getElem_cons_succ, List.getElem_cons_zero, List.setIfInBounds_toArray, List.set_cons_zero, List.set_cons_succ]
  refine wpAnyH_done (by kernel_rfl) ?_ _
  clear hHeld
  go_wp2_with fail
  have bd : Below wc.heap.size wc wc.drew := (Below.refl _ wc).drew
  have Td := Tc.out.later bd
  have Qd := Qc.out.later bd
  refine wp_region_held_drew (S := fun w' => w'.rangeAt n9 0 (u8.cs) ∧ w'.rangeAt (w.heap.size + 1) 0 y.cs) (by kernel_rfl) ⟨Qd.rg, Td.r2⟩ (fun hHeld => ?_)
  refine wpAnyH_take (i := 0) (v := .agg (u8.cs).toArray) rfl (by kernel_rfl) (by kernel_rfl) (by kernel_rfl) (fun _ _ _ h => h) (yieldsIf_load_mid (by rfl) 30 _ rfl (n9) (0) rfl (u8.cs) _ (fun w h => h.1) Try.underlying30 rfl sizeIS) hHeld ?_
  simp only [Act.put, List.getElem_toArray, List.getElem_cons_succ, List.getElem_cons_zero, List.setIfInBounds_toArray, List.set_cons_zero, List.set_cons_succ]
  refine wpAnyH_take (i := 1) (v := .agg y.cs.toArray) rfl (by kernel_rfl) (by kernel_rfl) (by kernel_rfl) (fun _ _ _ h => h) (yieldsIf_load_mid (by rfl) 50 _ rfl (w.heap.size + 1) (0) rfl y.cs _ (fun w h => h.2) Try.underlying50 rfl sizeLS) hHeld ?_
  simp only [Act.put, List.getElem_toArray, List.getElem_cons_succ, List.getElem_cons_zero, List.setIfInBounds_toArray, List.set_cons_zero, List.set_cons_succ]
  refine wpAnyH_ready (rs := [2]) (by kernel_rfl) (by simp) ?_
  refine AllReadyH.cons rfl (fun K hK => ?_) AllReadyH.nil
  rw [if_pos (by rfl)]
  simp only [List.getElem_toArray, List.getElem_cons_succ, List.getElem_cons_zero]
  go_wp2_with fail
  refine (toX y HK.out.1.2 _ Td.e2).mono ?_
  rintro e wd ⟨ud, rfl, gd, hbd⟩
  go_wp2_with fail
  refine hK.out _ _ (⟨rangeAt_later hHeld.1 hbd, rangeAt_later hHeld.2 hbd⟩) (fun hHeld => ?_)
  have Qe := Qd.later hbd
  refine wpAnyH_ready (rs := [3]) (by kernel_rfl) (by simp) ?_
  refine AllReadyH.cons rfl (fun K hK => ?_) AllReadyH.nil
  rw [if_pos (by rfl)]
  simp only [List.getElem_toArray, List.getElem_cons_succ, List.getElem_cons_zero]
  go_wp2_with fail
  refine (eqX u8 ud y HK.out.1.2 _ D8.out gd.1 Qe.ev gd.2).mono ?_
  rintro e we ⟨rfl, hbe⟩
  go_wp2_with fail
  refine hK.out _ _ (⟨rangeAt_later hHeld.1 hbe, rangeAt_later hHeld.2 hbe⟩) (fun hHeld => ?_)
  have Te := ((Td.later hbd).later hbe).low
  clear bd Td Qd Qe gd hbd hbe Tc Qc
  refine wpAnyH_take (i := 4) (v := .bool false) rfl (by kernel_rfl) (by kernel_rfl) (by kernel_rfl) (fun _ _ _ h => h) (Or.inl ⟨by rfl, ?yc4⟩) hHeld ?_
  case yc4 => intro w hSw; go_simp
  simp only [Act.put, List.getElem_toArray, List.getElem_cons_succ, List.getElem_cons_zero, List.setIfInBounds_toArray, List.set_cons_zero, List.set_cons_succ]
  refine wpAnyH_done (by kernel_rfl) ?_ _
  clear hHeld
  go_wp2
  go_ret
  exact ⟨rfl, Te⟩
set_option maxRecDepth 100000 in
theorem lifted (os : Os) (started : os.Started) (H : Type) (enc : TypeId × Value → H) :
    ReturnsInHanded {} Try.checked os 7 .any (Rows.fnExactSameStmtSpec.pre6 enc Try.prog Try.f7 Rows.fnExactSameStmtRow.domain false) (Rows.fnExactSameStmtSpec.post enc Try.prog Try.f7 false true false false) := by
  refine returnsInHanded_of_change (C := Try.checked) own started (by kernel_rfl) Try.func7
    (ChangeSpec.witness6 (enc := enc) (C := Try.checked) false ⟨#[], #[.agg #[.int .i64 0, .string ByteArray.empty, .int .i64 0, .int .i64 0, .string ByteArray.empty, .slice none 0 0, .int .i64 0, .int .i64 0, .string ByteArray.empty, .slice none 0 0, .int .i64 0, .int .i64 0, .string ByteArray.empty, .slice none 0 0, .int .i64 0, .int .i64 0, .string ByteArray.empty, .slice none 0 0, .slice none 0 0], .agg #[.int .i64 0, .string ByteArray.empty, .int .i64 0, .int .i64 0, .string ByteArray.empty, .slice none 0 0, .int .i64 0, .int .i64 0, .string ByteArray.empty, .slice none 0 0, .int .i64 0, .int .i64 0, .string ByteArray.empty, .slice none 0 0, .int .i64 0, .int .i64 0, .string ByteArray.empty, .slice none 0 0, .slice none 0 0]], []⟩ 8 (by kernel_rfl) (by kernel_rfl) (by kernel_rfl) (by kernel_rfl)) ?_
  intro W base args ds gs before hval0 hW hcnd _
  have hW' := hW
  obtain ⟨p, q, hA0, hV, rfl, hfz, hnd⟩ := hW
  have hA : DataW.TrodAll enc Try.prog W 0 (fun _ => true) true Try.f7.params.toList args.toList ds p := hA0
  have hval : ∀ (j : Nat) t v, Try.f7.params[j]? = some t → args[j]? = some v → Value.okWide Try.prog W .any base t v := hval0
  rw [Try.params7] at hA hval
  obtain ⟨v0, vs0, d0, ds0, p0, q0, hargs, rfl, rfl, h0, r0⟩ := trodAll_cons hA
  obtain ⟨v1, vs1, d1, ds1, p1, q1, rfl, rfl, rfl, h1, r1⟩ := trodAll_cons r0
  obtain ⟨rfl, rfl, rfl⟩ := trodAll_nil r1
  obtain rfl : args = #[v0, v1] := by cases args; simp_all
  obtain ⟨rfl, rfl⟩ := trodVars_none hV
  obtain ⟨cs0, rfl, _⟩ := okWide_struct Try.underlying50 (hval 0 50 v0 rfl rfl)
  have k0 := h0
  have lt0 : ∀ x ∈ p0, x.block < W.heap.size := by obtain ⟨m, hm⟩ := k0; exact DataW.trod_lt m _ _ _ hm
  obtain ⟨x0, l0, a0, b0, c0, d0', u0, hxo0, hev0, hsv0, hcs0⟩ : ∃ (h : SH) (l : SF) (v1 v2 v3 v4 v : Value), (h.s.size ≤ 9223372036854775807 ∧ xok h.x1 ∧ xok h.x2 ∧ xok h.x3 ∧ xok h.x4 ∧ slen l ≤ 9223372036854775807 ∧ sok l) ∧ HV W 0 h v1 v2 v3 v4 ∧ SV W 0 l v ∧ cs0 = (scells h v1 v2 v3 v4 v).toArray := by
    obtain ⟨fuel, hf⟩ := h0
    obtain ⟨h, l, v1, v2, v3, v4, v, e, h1, h2, h3⟩ := open_stmt hf
    have e2 : cs0.toList = scells h v1 v2 v3 v4 v := by simpa [Value.cells] using e
    exact ⟨h, l, v1, v2, v3, v4, v, h1, h2, h3, by rw [← e2]⟩
  subst hcs0
  obtain ⟨cs1, rfl, _⟩ := okWide_struct Try.underlying50 (hval 1 50 v1 rfl rfl)
  have k1 := h1
  have lt1 : ∀ x ∈ p1, x.block < W.heap.size := by obtain ⟨m, hm⟩ := k1; exact DataW.trod_lt m _ _ _ hm
  obtain ⟨x1, l1, a1, b1, c1, d1', u1, hxo1, hev1, hsv1, hcs1⟩ : ∃ (h : SH) (l : SF) (v1 v2 v3 v4 v : Value), (h.s.size ≤ 9223372036854775807 ∧ xok h.x1 ∧ xok h.x2 ∧ xok h.x3 ∧ xok h.x4 ∧ slen l ≤ 9223372036854775807 ∧ sok l) ∧ HV W 0 h v1 v2 v3 v4 ∧ SV W 0 l v ∧ cs1 = (scells h v1 v2 v3 v4 v).toArray := by
    obtain ⟨fuel, hf⟩ := h1
    obtain ⟨h, l, v1, v2, v3, v4, v, e, h1, h2, h3⟩ := open_stmt hf
    have e2 : cs1.toList = scells h v1 v2 v3 v4 v := by simpa [Value.cells] using e
    exact ⟨h, l, v1, v2, v3, v4, v, h1, h2, h3, by rw [← e2]⟩
  subst hcs1
  clear hA0 hval0
  refine (walk ⟨x0, l0, a0, b0, c0, d0', u0⟩ ⟨x1, l1, a1, b1, c1, d1', u1⟩ hxo0 hxo1 W ⟨hev0, hsv0⟩ ⟨hev1, hsv1⟩).mono fun e W' ⟨he, bel⟩ => ?_
  subst he
  exact ⟨_, rfl, _, _, _, [], _, [], hW', trodAll_mk1 (shut_bool Try.underlying4 _), (trodAll_cons_mk (Below.trod laidOut (by kernel_rfl) (of_decide_eq_true (by kernel_rfl)) k0 bel lt0) (trodAll_cons_mk (Below.trod laidOut (by kernel_rfl) (of_decide_eq_true (by kernel_rfl)) k1 bel lt1) trodAll_mk0)), rfl, bel.frame _, fun h => by cases h⟩

theorem over : Rows.fnExactSameStmtRow.holds Try.pinned (OpenSpec.ofChange Rows.fnExactSameStmtSpec) :=
  OpenClaim.holds_of_wide 7 Try.f7 rfl rfl rfl rfl rfl rfl rfl ⟨rfl, rfl, rfl, rfl, rfl⟩ rfl rfl rfl rfl rfl (by kernel_rfl) Try.func7 (by kernel_rfl)
    (of_decide_eq_true (by kernel_rfl)) (by unfold Func.isWrapper; first | (rw [if_pos (by decide +kernel)]; kernel_rfl) | (rw [if_neg (by decide +kernel)]; exact ⟨rfl, rfl⟩))
    (fun os started H enc _ => lifted os started H enc)

end Go.Proofs.Ytnomibchmmgagaa.fnExactSameStmt
namespace Go.Proofs.Ytnomibchmmgagaa
/-- THE STATEMENT -/
theorem fnExactSameStmt_holds : Rows.FnExactSameStmtSaid := fnExactSameStmt.over
#print axioms fnExactSameStmt_holds
end Go.Proofs.Ytnomibchmmgagaa
