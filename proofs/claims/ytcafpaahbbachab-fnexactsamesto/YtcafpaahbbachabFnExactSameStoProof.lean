/-
  PROVED: at the landed commit laws.FnExactSameSto returns true for every two stores: impl.SameSto answers as the specification's SameSto and writes into no argument; no condition.
-/
import Derived.Test.YtcafpaahbbachabRows
import Derived.Test.YtcafpaahbbachabP02ofSameSto
import Derived.Test.YtcafpaahbbachabP04ofSameSto
import Derived.Test.YtcafpaahbbachabP05ofSameSto
import Derived.Deep.RegionHeld
import Derived.WalkKit
import Derived.ProofKit
import Derived.OpenShut
import Derived.ShutString
import Derived.ChangeOld
import Derived.Below
namespace Go.Proofs.Ytcafpaahbbachab.fnExactSameSto
open Go.ChangeShapes Go.WideShapes Go.ChangeAt Go.RowKit
set_option linter.unusedVariables false
set_option linter.unusedSimpArgs false

theorem own : ownKnob Try.prog.godebug = none := by kernel_rfl
theorem laidOut : laidOutB Try.prog = true := by kernel_rfl
/-- A store. -/
structure SX where
  A : List (List Int)
  V : List Int
  O : List Int
  en : Int
abbrev ST := Value × Value × Value
def tcells (x : SX) (v : ST) : List Value := [v.1, v.2.1, v.2.2, .int .i64 x.en]
def TS (w : World) (x : SX) (v : ST) : Prop := StoV w v.1 v.2.1 v.2.2 x.A x.V x.O
theorem TS.later {w w' : World} {x : SX} {v : ST} (h : TS w x v) (hb : Below w.heap.size w w') : TS w' x v := StoV.later h hb
def tok (x : SX) : Prop := StoG x.A x.V x.O
def tsize (x : SX) : Nat := x.A.length + totA x.A + x.V.length + x.O.length
theorem len_le_tot (A : List (List Int)) : ∀ xs ∈ A, xs.length ≤ totA A := by
  induction A with
  | nil => intro xs h; simp at h
  | cons a A ih =>
    intro xs h
    rcases List.mem_cons.1 h with rfl | h
    · simp only [totA]; omega
    · have := ih xs h; simp only [totA]; omega
theorem tlim (x : SX) (hx : tsize x ≤ 1048576) : StoL x.A x.V x.O := by
  unfold tsize at hx
  exact ⟨by omega, fun xs h => by have := len_le_tot x.A xs h; omega, by omega, by omega⟩
theorem tlim2 (x : SX) (hx : tsize x ≤ 1048576) : x.A.length ≤ 1048576 ∧ (∀ xs ∈ x.A, xs.length ≤ 1048576) ∧ x.V.length ≤ 1048576 ∧ x.O.length ≤ 1048576 := by
  unfold tsize at hx
  exact ⟨by omega, fun xs h => by have := len_le_tot x.A xs h; omega, by omega, by omega⟩
theorem oneT {w : World} {x : SX} {v : ST} (h : TS w x v) : (tcells x v).toArray.all (·.oneCell') = true := one4 h.a.isOne h.v.isOne h.o.isOne rfl
theorem newT4 (w : World) (t : TypeId) : (w.alloc (.cells #[.slice Option.none 0 0, .slice Option.none 0 0, .slice Option.none 0 0, .int .i64 0] t)).there w.heap.size 0 4 := blk_there (arr := #[.slice Option.none 0 0, .slice Option.none 0 0, .slice Option.none 0 0, .int .i64 0]) (t := t) (blkLast _ _) (Nat.le_refl 4)
theorem newTb {w W : World} {t : TypeId} (x : SX) (v : ST) (hW : (w.alloc (.cells #[.slice Option.none 0 0, .slice Option.none 0 0, .slice Option.none 0 0, .int .i64 0] t)).setCells w.heap.size 0 (tcells x v) = W) : W.rangeAt w.heap.size 0 (tcells x v) ∧ Below w.heap.size w W := by
  subst hW
  exact ⟨World.rangeAt_setCells_same _ _ _ _ (newT4 w t), below_sets _ _ (alloc_below _ _) (Nat.le_refl _)⟩
/-- The two arguments in their boxes. -/
structure Bx (w0 w : World) (N : Nat) (x y : SX) (va vb : ST) : Prop where
  r1 : w.rangeAt N 0 (tcells x va)
  r2 : w.rangeAt (N + 1) 0 (tcells y vb)
  e1 : TS w x va
  e2 : TS w y vb
  low : Below w0.heap.size w0 w
theorem Bx.later {w0 w w' : World} {N : Nat} {x y : SX} {va vb : ST} (t : Bx w0 w N x y va vb) (hb : Below w.heap.size w w') : Bx w0 w' N x y va vb :=
  ⟨rangeAt_later t.r1 hb, rangeAt_later t.r2 hb, t.e1.later hb, t.e2.later hb, t.low.trans (hb.mono t.low.size)⟩
theorem Bx.start {w : World} {x y : SX} {va vb : ST} (t : TypeId) (ha : TS w x va) (hb : TS w y vb) : Bx w ((w.alloc (.cells (tcells x va).toArray t)).alloc (.cells (tcells y vb).toArray t)) w.heap.size x y va vb := by
  obtain ⟨h1, h2, h3⟩ := two_blk w (tcells x va).toArray (tcells y vb).toArray t t
  exact ⟨h1, h2, ha.later h3, hb.later h3, h3⟩
/-- A copy in a variable. -/
structure Gt (w : World) (n : Nat) (x : SX) (v : ST) : Prop where
  rg : w.rangeAt n 0 (tcells x v)
  ev : TS w x v
theorem Gt.later {w w' : World} {n : Nat} {x : SX} {v : ST} (t : Gt w n x v) (hb : Below w.heap.size w w') : Gt w' n x v := ⟨rangeAt_later t.rg hb, t.ev.later hb⟩
theorem toX (x : SX) (hx : tsize x ≤ 1048576) (w : World) (v : ST) (hv : TS w x v) : Calls Try.prog 6 #[.agg (tcells x v).toArray] w fun e w' => ∃ v', e = .returned (.agg (tcells x v').toArray) ∧ TS w' x v' ∧ Below w.heap.size w w' :=
  (toSto_is x.A x.V x.O x.en (tlim2 x hx) v.1 v.2.1 v.2.2 w hv).mono fun e w' ⟨ua, uv, uo, h1, h2, h3⟩ => ⟨(ua, uv, uo), h1, h2, h3⟩
theorem eqX (x : SX) (hx : tsize x ≤ 1048576) (w : World) (va vb : ST) (ha : TS w x va) (hb : TS w x vb) : Calls Try.prog 8 #[.agg (tcells x va).toArray, .agg (tcells x vb).toArray] w fun e w' => e = .returned (.bool true) ∧ Below w.heap.size w w' :=
  eqSto_same x.A x.V x.O x.en (tlim x hx) va.1 va.2.1 va.2.2 vb.1 vb.2.1 vb.2.2 w ha hb
theorem szX (x : SX) (hx : tok x) (w : World) (v : ST) (left : Int) (hv : TS w x v) (h0 : 0 ≤ left) (h1 : left ≤ 1048576) : Calls Try.prog 4 #[.agg (tcells x v).toArray, .int .i64 left] w fun e w' => e = .returned (.int .i64 (if left < (tsize x : Int) then -1 else left - (tsize x : Int))) ∧ Below w.heap.size w w' :=
  szSto_is x.A x.V x.O x.en hx.a hx.b hx.v hx.o v.1 v.2.1 v.2.2 w hv.a hv.v hv.o left h0 h1
theorem specT (x y : SX) (hx : tsize x ≤ 1048576) (hy : tsize y ≤ 1048576) (w : World) (va vb : ST) (ha : TS w x va) (hb : TS w y vb) : Calls Try.prog 5 #[.agg (tcells x va).toArray, .agg (tcells y vb).toArray] w fun e w' => e = .returned (.bool (sameS x.A y.A x.V x.O y.V y.O x.en y.en)) ∧ Below w.heap.size w w' :=
  spec_SameSto x.A y.A x.V x.O y.V y.O x.en y.en (tlim x hx) (tlim y hy) va.1 va.2.1 va.2.2 vb.1 vb.2.1 vb.2.2 w ha hb
theorem implT (x y : SX) (hx : tsize x ≤ 1048576) (hy : tsize y ≤ 1048576) (w : World) (va vb : ST) (ha : TS w x va) (hb : TS w y vb) : Calls Try.prog 7 #[.agg (tcells x va).toArray, .agg (tcells y vb).toArray] w fun e w' => e = .returned (.bool (sameS x.A y.A x.V x.O y.V y.O x.en y.en)) ∧ Below w.heap.size w w' :=
  impl_SameSto x.A y.A x.V x.O y.V y.O x.en y.en (tlim x hx) (tlim y hy) va.1 va.2.1 va.2.2 vb.1 vb.2.1 vb.2.2 w ha hb
set_option maxHeartbeats 4000000 in
set_option maxRecDepth 100000 in
theorem walk (x y : SX) (hx : tok x) (hy : tok y) (va vb : ST) (w : World) (ha : TS w x va) (hb : TS w y vb) :
    Calls Try.prog 3 #[.agg (tcells x va).toArray, .agg (tcells y vb).toArray] w fun e w' => e = .returned (.bool true) ∧ Below w.heap.size w w' := by
  have HX := Lib.hid (And.intro hx hy)
  have T0 := Lib.hid (Bx.start 25 ha hb)
  clear hx hy ha hb
  go_enter Try.func3, Try.ntmps3
  go_wp2_with (refine wpList_load_mid rfl 25 _ rfl w.heap.size 0 rfl _ _ T0.out.r1 Try.underlying25 rfl sizeLSto ?_)
  refine (szX x HX.out.1 _ va 1048576 T0.out.e1 (by omega) (by omega)).mono ?_
  rintro e w1 ⟨rfl, hb1⟩
  have T1 := Lib.hid (T0.out.later hb1)
  clear hb1 T0
  by_cases hd : (1048576 : Int) < (tsize x : Int)
  · rw [if_pos hd]
    go_wp2
    go_ret
    exact ⟨rfl, T1.out.low⟩
  rw [if_neg hd]
  obtain ⟨L, hL⟩ : ∃ L : Int, 1048576 - (tsize x : Int) = L := ⟨_, rfl⟩
  rw [hL]
  have hL0 : ¬ L < 0 := by omega
  have hL2 : 0 ≤ L := by omega
  have hL3 : L ≤ 1048576 := by omega
  have HL := Lib.hid hL
  clear hL
  go_wp2_with (refine wpList_load_mid rfl 25 _ rfl (w.heap.size + 1) 0 rfl _ _ T1.out.r2 Try.underlying25 rfl sizeLSto ?_)
  refine (szX y HX.out.2 _ vb L T1.out.e2 hL2 hL3).mono ?_
  rintro e w2 ⟨rfl, hb2⟩
  have T2 := Lib.hid (T1.out.later hb2)
  clear hb2 T1
  by_cases hd2 : L < (tsize y : Int)
  · rw [if_pos hd2]
    go_wp2
    go_ret
    exact ⟨rfl, T2.out.low⟩
  rw [if_neg hd2]
  have kx : tsize x ≤ 1048576 := by omega
  have ky : tsize y ≤ 1048576 := by omega
  have hn2 : ¬ L - (tsize y : Int) < 0 := by omega
  have nx : True := trivial
  have ny : True := trivial
  have HK := Lib.hid (And.intro (And.intro kx ky) (And.intro nx ny))
  obtain ⟨tv, htv⟩ : ∃ tv, sameS x.A y.A x.V x.O y.V y.O x.en y.en = tv := ⟨_, rfl⟩
  have Htv := Lib.hid htv
  clear hd hd2 hL0 hL2 hL3 kx ky nx ny htv
  go_wp2_with fail
  have T2d := T2.out.later (show Below w2.heap.size w2 w2.drew from (Below.refl _ w2).drew)
  refine wp_region_held_drew (S := fun w' => w'.rangeAt w.heap.size 0 (tcells x va) ∧ w'.rangeAt (w.heap.size + 1) 0 (tcells y vb)) (by kernel_rfl) ⟨T2d.r1, T2d.r2⟩ (fun hHeld => ?_)
  refine wpAnyH_take (i := 0) (v := .agg (tcells x va).toArray) rfl (by kernel_rfl) (by kernel_rfl) (by kernel_rfl) (fun _ _ _ h => h) (yieldsIf_load_mid (by rfl) 25 _ rfl (w.heap.size) (0) rfl (tcells x va) _ (fun w h => h.1) Try.underlying25 rfl sizeLSto) hHeld ?_
  simp only [Act.put, List.getElem_toArray, List.getElem_cons_succ, List.getElem_cons_zero, List.setIfInBounds_toArray, List.set_cons_zero, List.set_cons_succ]
  refine wpAnyH_take (i := 2) (v := .agg (tcells y vb).toArray) rfl (by kernel_rfl) (by kernel_rfl) (by kernel_rfl) (fun _ _ _ h => h) (yieldsIf_load_mid (by rfl) 25 _ rfl (w.heap.size + 1) (0) rfl (tcells y vb) _ (fun w h => h.2) Try.underlying25 rfl sizeLSto) hHeld ?_
  simp only [Act.put, List.getElem_toArray, List.getElem_cons_succ, List.getElem_cons_zero, List.setIfInBounds_toArray, List.set_cons_zero, List.set_cons_succ]
  refine wpAnyH_ready (rs := [1]) (by kernel_rfl) (by simp) ?_
  refine AllReadyH.cons rfl (fun K hK => ?_) AllReadyH.nil
  rw [if_pos (by rfl)]
  simp only [List.getElem_toArray, List.getElem_cons_succ, List.getElem_cons_zero]
  go_wp2_with fail
  refine (toX x HK.out.1.1 _ va T2d.e1).mono ?_
  rintro e w3 ⟨u1, rfl, g1, hb3⟩
  go_wp2_with fail
  refine hK.out _ _ (⟨rangeAt_later hHeld.1 hb3, rangeAt_later hHeld.2 hb3⟩) (fun hHeld => ?_)
  have T3 := T2d.later hb3
  refine wpAnyH_ready (rs := [3]) (by kernel_rfl) (by simp) ?_
  refine AllReadyH.cons rfl (fun K hK => ?_) AllReadyH.nil
  rw [if_pos (by rfl)]
  simp only [List.getElem_toArray, List.getElem_cons_succ, List.getElem_cons_zero]
  go_wp2_with fail
  refine (toX y HK.out.1.2 _ vb T3.e2).mono ?_
  rintro e w4 ⟨u2, rfl, g2, hb4⟩
  go_wp2_with fail
  refine hK.out _ _ (⟨rangeAt_later hHeld.1 hb4, rangeAt_later hHeld.2 hb4⟩) (fun hHeld => ?_)
  have T4 := T3.later hb4
  have g1' := g1.later hb4
  refine wpAnyH_ready (rs := [4]) (by kernel_rfl) (by simp) ?_
  refine AllReadyH.cons rfl (fun K hK => ?_) AllReadyH.nil
  rw [if_pos (by rfl)]
  simp only [List.getElem_toArray, List.getElem_cons_succ, List.getElem_cons_zero]
  go_wp2_with fail
  refine (specT x y HK.out.1.1 HK.out.1.2 _ u1 u2 g1' g2).mono ?_
  rintro e w5 ⟨rfl, hb5⟩
  go_wp2_with fail
  refine hK.out _ _ (⟨rangeAt_later hHeld.1 hb5, rangeAt_later hHeld.2 hb5⟩) (fun hHeld => ?_)
  rw [Htv.out]
  have T5 := Lib.hid (T4.later hb5)
  clear T2d T3 T4 g1 g2 g1' hb3 hb4 hb5 T2
  refine wpAnyH_take (i := 5) (v := .bool tv) rfl (by kernel_rfl) (by kernel_rfl) (by kernel_rfl) (fun _ _ _ h => h) (Or.inl ⟨by rfl, ?ya5⟩) hHeld ?_
  case ya5 => intro w hSw; go_simp
  simp only [Act.put, List.getElem_toArray, List.getElem_cons_succ, List.getElem_cons_zero, List.setIfInBounds_toArray, List.set_cons_zero, List.set_cons_succ]
  refine wpAnyH_done (by kernel_rfl) ?_ _
  clear hHeld
  go_wp2_with (refine wpList_load_mid rfl 25 _ rfl w.heap.size 0 rfl _ _ T5.out.r1 Try.underlying25 rfl sizeLSto ?_)
  refine (toX x HK.out.1.1 _ va T5.out.e1).mono ?_
  rintro e w6 ⟨u7, rfl, g7, hb6⟩
  have T6 := Lib.hid (T5.out.later hb6)
  have i7 := g7
  have G7 := Lib.hid g7
  clear hb6 T5 g7
  go_wp2_with (first | (refine store_abs rfl 28 _ _ rfl _ _ _ rfl rfl ?ht sizeSto ?ho ?_; exact (newT4 w6 _); exact (oneT i7); intro W7 hW; have HW := newTb x u7 hW; have P7 : Hid (Gt W7 w6.heap.size x u7) := ⟨HW.1, G7.out.later HW.2⟩; have T7 := Lib.hid (T6.out.later HW.2); clear hW HW T6 G7 i7) | (refine wpList_load_mid rfl 25 _ rfl (w.heap.size + 1) 0 rfl _ _ T7.out.r2 Try.underlying25 rfl sizeLSto ?_))
  obtain ⟨n7, hn7⟩ : ∃ n7, w6.heap.size = n7 := ⟨_, rfl⟩
  rw [hn7] at P7 ⊢
  clear hn7
  refine (toX y HK.out.1.2 _ vb T7.out.e2).mono ?_
  rintro e w8 ⟨u8, rfl, g8, hb8⟩
  have T8 := Lib.hid (T7.out.later hb8)
  have P8 := Lib.hid (P7.out.later hb8)
  have i8 := g8
  have G8 := Lib.hid g8
  clear hb8 T7 P7 g8
  go_wp2_with (first | (refine store_abs rfl 28 _ _ rfl _ _ _ rfl rfl ?ht2 sizeSto ?ho2 ?_; exact (newT4 w8 _); exact (oneT i8); intro W9 hW; have HW := newTb y u8 hW; have Q9 : Hid (Gt W9 w8.heap.size y u8) := ⟨HW.1, G8.out.later HW.2⟩; have P9 := Lib.hid (P8.out.later HW.2); have T9 := Lib.hid (T8.out.later HW.2); clear hW HW T8 G8 i8 P8) | (refine wpList_load_mid rfl 28 _ rfl n7 0 rfl _ _ P9.out.rg Try.underlying28 rfl sizeSto ?_) | (refine wpList_load_mid rfl 28 _ rfl w8.heap.size 0 rfl _ _ Q9.out.rg Try.underlying28 rfl sizeSto ?_))
  obtain ⟨n9, hn9⟩ : ∃ n9, w8.heap.size = n9 := ⟨_, rfl⟩
  rw [hn9] at Q9 ⊢
  clear hn9
  refine (implT x y HK.out.1.1 HK.out.1.2 _ u7 u8 P9.out.ev Q9.out.ev).mono ?_
  rintro e wa ⟨rfl, hba⟩
  rw [Htv.out]
  have Ta := Lib.hid (T9.out.later hba)
  have Pa := Lib.hid (P9.out.later hba)
  have Qa := Lib.hid (Q9.out.later hba)
  clear hba T9 P9 Q9
  have hbb : (tv != tv) = false := by cases tv <;> rfl
  go_wp2_with fail
  have bd : Below wa.heap.size wa wa.drew := (Below.refl _ wa).drew
  have Td := Ta.out.later bd
  have Pd := Pa.out.later bd
  refine wp_region_held_drew (S := fun w' => w'.rangeAt n7 0 (tcells x u7) ∧ w'.rangeAt w.heap.size 0 (tcells x va)) (by kernel_rfl) ⟨Pd.rg, Td.r1⟩ (fun hHeld => ?_)
  refine wpAnyH_take (i := 0) (v := .agg (tcells x u7).toArray) rfl (by kernel_rfl) (by kernel_rfl) (by kernel_rfl) (fun _ _ _ h => h) (yieldsIf_load_mid (by rfl) 28 _ rfl (n7) (0) rfl (tcells x u7) _ (fun w h => h.1) Try.underlying28 rfl sizeSto) hHeld ?_
  simp only [Act.put, List.getElem_toArray, List.getElem_cons_succ, List.getElem_cons_zero, List.setIfInBounds_toArray, List.set_cons_zero, List.set_cons_succ]
  refine wpAnyH_take (i := 1) (v := .agg (tcells x va).toArray) rfl (by kernel_rfl) (by kernel_rfl) (by kernel_rfl) (fun _ _ _ h => h) (yieldsIf_load_mid (by rfl) 25 _ rfl (w.heap.size) (0) rfl (tcells x va) _ (fun w h => h.2) Try.underlying25 rfl sizeLSto) hHeld ?_
  simp only [Act.put, List.getElem_toArray, List.getElem_cons_succ, List.getElem_cons_zero, List.setIfInBounds_toArray, List.set_cons_zero, List.set_cons_succ]
  refine wpAnyH_ready (rs := [2]) (by kernel_rfl) (by simp) ?_
  refine AllReadyH.cons rfl (fun K hK => ?_) AllReadyH.nil
  rw [if_pos (by rfl)]
  simp only [List.getElem_toArray, List.getElem_cons_succ, List.getElem_cons_zero]
  go_wp2_with fail
  refine (toX x HK.out.1.1 _ va Td.e1).mono ?_
  rintro e wb ⟨ub, rfl, gb, hbb2⟩
  go_wp2_with fail
  refine hK.out _ _ (⟨rangeAt_later hHeld.1 hbb2, rangeAt_later hHeld.2 hbb2⟩) (fun hHeld => ?_)
  have Pb := Pd.later hbb2
  refine wpAnyH_ready (rs := [3]) (by kernel_rfl) (by simp) ?_
  refine AllReadyH.cons rfl (fun K hK => ?_) AllReadyH.nil
  rw [if_pos (by rfl)]
  simp only [List.getElem_toArray, List.getElem_cons_succ, List.getElem_cons_zero]
  go_wp2_with fail
  refine (eqX x HK.out.1.1 _ u7 ub Pb.ev gb).mono ?_
  rintro e wc ⟨rfl, hbc⟩
  go_wp2_with fail
  refine hK.out _ _ (⟨rangeAt_later hHeld.1 hbc, rangeAt_later hHeld.2 hbc⟩) (fun hHeld => ?_)
  have Bc := bd.trans ((hbb2.trans (hbc.mono hbb2.size)).mono bd.size)
  have Tc := Lib.hid (Ta.out.later Bc)
  have Qc := Lib.hid (Qa.out.later Bc)
  clear bd Td Pd Pb gb hbb2 hbc Bc Ta Pa Qa
  refine wpAnyH_take (i := 4) (v := .bool false) rfl (by kernel_rfl) (by kernel_rfl) (by kernel_rfl) (fun _ _ _ h => h) (Or.inl ⟨by rfl, ?yb4⟩) hHeld ?_
  case yb4 => intro w hSw; go_simp
  simp only [Act.put, List.getElem_toArray, List.getElem_cons_succ, List.getElem_cons_zero, List.setIfInBounds_toArray, List.set_cons_zero, List.set_cons_succ]
  refine wpAnyH_done (by kernel_rfl) ?_ _
  clear hHeld
  go_wp2_with fail
  have bd : Below wc.heap.size wc wc.drew := (Below.refl _ wc).drew
  have Td := Tc.out.later bd
  have Qd := Qc.out.later bd
  refine wp_region_held_drew (S := fun w' => w'.rangeAt n9 0 (tcells y u8) ∧ w'.rangeAt (w.heap.size + 1) 0 (tcells y vb)) (by kernel_rfl) ⟨Qd.rg, Td.r2⟩ (fun hHeld => ?_)
  refine wpAnyH_take (i := 0) (v := .agg (tcells y u8).toArray) rfl (by kernel_rfl) (by kernel_rfl) (by kernel_rfl) (fun _ _ _ h => h) (yieldsIf_load_mid (by rfl) 28 _ rfl (n9) (0) rfl (tcells y u8) _ (fun w h => h.1) Try.underlying28 rfl sizeSto) hHeld ?_
  simp only [Act.put, List.getElem_toArray, List.getElem_cons_succ, List.getElem_cons_zero, List.setIfInBounds_toArray, List.set_cons_zero, List.set_cons_succ]
  refine wpAnyH_take (i := 1) (v := .agg (tcells y vb).toArray) rfl (by kernel_rfl) (by kernel_rfl) (by kernel_rfl) (fun _ _ _ h => h) (yieldsIf_load_mid (by rfl) 25 _ rfl (w.heap.size + 1) (0) rfl (tcells y vb) _ (fun w h => h.2) Try.underlying25 rfl sizeLSto) hHeld ?_
  simp only [Act.put, List.getElem_toArray, List.getElem_cons_succ, List.getElem_cons_zero, List.setIfInBounds_toArray, List.set_cons_zero, List.set_cons_succ]
  refine wpAnyH_ready (rs := [2]) (by kernel_rfl) (by simp) ?_
  refine AllReadyH.cons rfl (fun K hK => ?_) AllReadyH.nil
  rw [if_pos (by rfl)]
  simp only [List.getElem_toArray, List.getElem_cons_succ, List.getElem_cons_zero]
  go_wp2_with fail
  refine (toX y HK.out.1.2 _ vb Td.e2).mono ?_
  rintro e wd ⟨ud, rfl, gd, hbd⟩
  go_wp2_with fail
  refine hK.out _ _ (⟨rangeAt_later hHeld.1 hbd, rangeAt_later hHeld.2 hbd⟩) (fun hHeld => ?_)
  have Qe := Qd.later hbd
  refine wpAnyH_ready (rs := [3]) (by kernel_rfl) (by simp) ?_
  refine AllReadyH.cons rfl (fun K hK => ?_) AllReadyH.nil
  rw [if_pos (by rfl)]
  simp only [List.getElem_toArray, List.getElem_cons_succ, List.getElem_cons_zero]
  go_wp2_with fail
  refine (eqX y HK.out.1.2 _ u8 ud Qe.ev gd).mono ?_
  rintro e we ⟨rfl, hbe⟩
  go_wp2_with fail
  refine hK.out _ _ (⟨rangeAt_later hHeld.1 hbe, rangeAt_later hHeld.2 hbe⟩) (fun hHeld => ?_)
  have Te := ((Td.later hbd).later hbe).low
  clear bd Td Qd Qe gd hbd hbe Tc Qc
  refine wpAnyH_take (i := 4) (v := .bool false) rfl (by kernel_rfl) (by kernel_rfl) (by kernel_rfl) (fun _ _ _ h => h) (Or.inl ⟨by rfl, ?yc4⟩) hHeld ?_
  case yc4 => intro w hSw; go_simp
  simp only [Act.put, List.getElem_toArray, List.getElem_cons_succ, List.getElem_cons_zero, List.setIfInBounds_toArray, List.set_cons_zero, List.set_cons_succ]
  refine wpAnyH_done (by kernel_rfl) ?_ _
  clear hHeld
  go_wp2
  go_ret
  exact ⟨rfl, Te⟩
set_option maxRecDepth 100000 in
theorem lifted (os : Os) (started : os.Started) (H : Type) (enc : TypeId × Value → H) :
    ReturnsInHanded {} Try.checked os 3 .any (Rows.fnExactSameStoSpec.pre6 enc Try.prog Try.f3 Rows.fnExactSameStoRow.domain false) (Rows.fnExactSameStoSpec.post enc Try.prog Try.f3 false true false false) := by
  refine returnsInHanded_of_change (C := Try.checked) own started (by kernel_rfl) Try.func3
    (ChangeSpec.witness6 (enc := enc) (C := Try.checked) false ⟨#[], #[.agg #[.slice none 0 0, .slice none 0 0, .slice none 0 0, .int .i64 0], .agg #[.slice none 0 0, .slice none 0 0, .slice none 0 0, .int .i64 0]], []⟩ 8 (by kernel_rfl) (by kernel_rfl) (by kernel_rfl) (by kernel_rfl)) ?_
  intro W base args ds gs before hval0 hW hcnd _
  have hW' := hW
  obtain ⟨p, q, hA0, hV, rfl, hfz, hnd⟩ := hW
  have hA : DataW.TrodAll enc Try.prog W 0 (fun _ => true) true Try.f3.params.toList args.toList ds p := hA0
  have hval : ∀ (j : Nat) t v, Try.f3.params[j]? = some t → args[j]? = some v → Value.okWide Try.prog W .any base t v := hval0
  rw [Try.params3] at hA hval
  obtain ⟨v0, vs0, d0, ds0, p0, q0, hargs, rfl, rfl, h0, r0⟩ := trodAll_cons hA
  obtain ⟨v1, vs1, d1, ds1, p1, q1, rfl, rfl, rfl, h1, r1⟩ := trodAll_cons r0
  obtain ⟨rfl, rfl, rfl⟩ := trodAll_nil r1
  obtain rfl : args = #[v0, v1] := by cases args; simp_all
  obtain ⟨rfl, rfl⟩ := trodVars_none hV
  obtain ⟨cs0, rfl, _⟩ := okWide_struct Try.underlying25 (hval 0 25 v0 rfl rfl)
  have k0 := h0
  have lt0 : ∀ x ∈ p0, x.block < W.heap.size := by obtain ⟨m, hm⟩ := k0; exact DataW.trod_lt m _ _ _ hm
  obtain ⟨x0, u0, hxo0, hev0, hcs0⟩ : ∃ (x : SX) (v : ST), tok x ∧ TS W x v ∧ cs0 = (tcells x v).toArray := by
    obtain ⟨fuel, hf⟩ := h0
    obtain ⟨A, V, O, en, va, vv, vo, e, h1, h2⟩ := open_sto hf
    have e2 : cs0.toList = [va, vv, vo, .int .i64 en] := by simpa [Value.cells] using e
    exact ⟨(⟨A, V, O, en⟩ : SX), ((va, vv, vo) : ST), h1, h2, by show cs0 = ([va, vv, vo, .int .i64 en] : List Value).toArray; rw [← e2]⟩
  subst hcs0
  obtain ⟨cs1, rfl, _⟩ := okWide_struct Try.underlying25 (hval 1 25 v1 rfl rfl)
  have k1 := h1
  have lt1 : ∀ x ∈ p1, x.block < W.heap.size := by obtain ⟨m, hm⟩ := k1; exact DataW.trod_lt m _ _ _ hm
  obtain ⟨x1, u1, hxo1, hev1, hcs1⟩ : ∃ (x : SX) (v : ST), tok x ∧ TS W x v ∧ cs1 = (tcells x v).toArray := by
    obtain ⟨fuel, hf⟩ := h1
    obtain ⟨A, V, O, en, va, vv, vo, e, h1, h2⟩ := open_sto hf
    have e2 : cs1.toList = [va, vv, vo, .int .i64 en] := by simpa [Value.cells] using e
    exact ⟨(⟨A, V, O, en⟩ : SX), ((va, vv, vo) : ST), h1, h2, by show cs1 = ([va, vv, vo, .int .i64 en] : List Value).toArray; rw [← e2]⟩
  subst hcs1
  clear hA0 hval0
  refine (walk x0 x1 hxo0 hxo1 u0 u1 W hev0 hev1).mono fun e W' ⟨he, bel⟩ => ?_
  subst he
  exact ⟨_, rfl, _, _, _, [], _, [], hW', trodAll_mk1 (shut_bool Try.underlying4 _), (trodAll_cons_mk (Below.trod laidOut (by kernel_rfl) (of_decide_eq_true (by kernel_rfl)) k0 bel lt0) (trodAll_cons_mk (Below.trod laidOut (by kernel_rfl) (of_decide_eq_true (by kernel_rfl)) k1 bel lt1) trodAll_mk0)), rfl, bel.frame _, fun h => by cases h⟩

theorem over : Rows.fnExactSameStoRow.holds Try.pinned (OpenSpec.ofChange Rows.fnExactSameStoSpec) :=
  OpenClaim.holds_of_wide 3 Try.f3 rfl rfl rfl rfl rfl rfl rfl ⟨rfl, rfl, rfl, rfl, rfl⟩ rfl rfl rfl rfl rfl (by kernel_rfl) Try.func3 (by kernel_rfl)
    (of_decide_eq_true (by kernel_rfl)) (by unfold Func.isWrapper; first | (rw [if_pos (by decide +kernel)]; kernel_rfl) | (rw [if_neg (by decide +kernel)]; exact ⟨rfl, rfl⟩))
    (fun os started H enc _ => lifted os started H enc)

end Go.Proofs.Ytcafpaahbbachab.fnExactSameSto
namespace Go.Proofs.Ytcafpaahbbachab
/-- THE STATEMENT -/
theorem fnExactSameSto_holds : Rows.FnExactSameStoSaid := fnExactSameSto.over
#print axioms fnExactSameSto_holds
end Go.Proofs.Ytcafpaahbbachab
