/-
  PROVED: at the landed commit laws.FnExactStmtOk returns true for every statement: impl.StmtOk answers as the specification's StmtOk and writes into no argument; no condition.
-/
import Derived.Test.YtlepidbgebfglaaRows
import Derived.Test.YtlepidbgebfglaaAstOpen
import Derived.Test.YtlepidbgebfglaaAstSzS
import Derived.Test.YtlepidbgebfglaaAstToS
import Derived.Test.YtlepidbgebfglaaAstStm
import Derived.Test.YtlepidbgebfglaaAstAllS
import Derived.Test.YtlepidbgebfglaaAstEqS
import Derived.WalkKit
import Derived.ProofKit
import Derived.OpenShut
import Derived.ShutString
import Derived.ChangeOld
import Derived.Below
namespace Go.Proofs.Ytlepidbgebfglaa.fnExactStmtOk
open Go.ChangeShapes Go.WideShapes Go.ChangeAt Go.RowKit
set_option linter.unusedVariables false
set_option linter.unusedSimpArgs false

theorem own : ownKnob Try.prog.godebug = none := by kernel_rfl
theorem laidOut : laidOutB Try.prog = true := by kernel_rfl
/-- One argument, or a copy of one. -/
structure Vals where
  h : SH
  l : SF
  v1 : Value
  v2 : Value
  v3 : Value
  v4 : Value
  v : Value
abbrev Vals.cs (x : Vals) : List Value := scells x.h x.v1 x.v2 x.v3 x.v4 x.v
structure Ev (w : World) (x : Vals) : Prop where
  hv : HV w 0 x.h x.v1 x.v2 x.v3 x.v4
  sv : SV w 0 x.l x.v
theorem Ev.later {w w' : World} {x : Vals} (e : Ev w x) (hb : Below w.heap.size w w') : Ev w' x := ⟨e.hv.later hb, e.sv.later hb⟩
/-- A copy: the same head and body. -/
structure Cp (x y : Vals) : Prop where
  h : y.h = x.h
  l : y.l = x.l
def ssz (x : Vals) : Nat := hsize x.h + ssize x.l
def vok (x : Vals) : Prop := x.h.s.size ≤ 9223372036854775807 ∧ xok x.h.x1 ∧ xok x.h.x2 ∧ xok x.h.x3 ∧ xok x.h.x4 ∧ slen x.l ≤ 9223372036854775807 ∧ sok x.l
theorem allSmall_of : ∀ F : SF, ssize F ≤ 10000000 → allSmall F
  | .nil, _ => trivial
  | .node _ _ h l r, e => by
    simp only [ssize, hsize, xsize] at e
    have a1 := enodes_le h.x1.l; have a2 := enodes_le h.x2.l; have a3 := enodes_le h.x3.l; have a4 := enodes_le h.x4.l
    exact ⟨⟨by omega, by omega, by omega, by omega⟩, allSmall_of l (by omega), allSmall_of r (by omega)⟩
theorem small_of {h : SH} (e : hsize h ≤ 10000000) : small h := by
  simp only [hsize, xsize] at e
  have a1 := enodes_le h.x1.l; have a2 := enodes_le h.x2.l; have a3 := enodes_le h.x3.l; have a4 := enodes_le h.x4.l
  exact ⟨by omega, by omega, by omega, by omega⟩
/-- The argument in its box. -/
structure Bx (w0 w : World) (N : Nat) (x : Vals) : Prop where
  r1 : w.rangeAt N 0 x.cs
  e1 : Ev w x
  low : Below w0.heap.size w0 w
theorem Bx.later {w0 w w' : World} {N : Nat} {x : Vals} (t : Bx w0 w N x) (hb : Below w.heap.size w w') : Bx w0 w' N x :=
  ⟨rangeAt_later t.r1 hb, t.e1.later hb, t.low.trans (hb.mono t.low.size)⟩
theorem Bx.start {w : World} {x : Vals} (t : TypeId) (ha : Ev w x) : Bx w (w.alloc (.cells x.cs.toArray t)) w.heap.size x :=
  ⟨new_range w x.cs.toArray t, ha.later (alloc_below _ _), alloc_below _ _⟩
theorem all9_of : ∀ F : SF, ssize F ≤ 4000000 → all9 F
  | .nil, _ => trivial
  | .node _ _ h l r, e => by
    simp only [ssize, hsize, xsize] at e
    have a1 := enodes_le h.x1.l; have a2 := enodes_le h.x2.l; have a3 := enodes_le h.x3.l; have a4 := enodes_le h.x4.l
    exact ⟨⟨by omega, by omega, by omega, by omega⟩, all9_of l (by omega), all9_of r (by omega)⟩
theorem small9_of {h : SH} (e : hsize h ≤ 4000000) : small9 h := by
  simp only [hsize, xsize] at e
  have a1 := enodes_le h.x1.l; have a2 := enodes_le h.x2.l; have a3 := enodes_le h.x3.l; have a4 := enodes_le h.x4.l
  exact ⟨by omega, by omega, by omega, by omega⟩
theorem okSpec (x : Vals) (hx : ssz x ≤ 1048576) (u : Vals) (cu : Cp x u) (w : World) (hu : Ev w u) : Calls Try.prog 17 #[.agg u.cs.toArray] w fun e w' => e = .returned (.bool (stmtOk x.h x.l)) ∧ Below w.heap.size w w' := by
  obtain ⟨uh, ul, u1, u2, u3, u4, uv⟩ := u
  obtain ⟨e1, e2⟩ := cu
  subst e1 e2
  exact spec_StmtOk x.h x.l hx w u1 u2 u3 u4 uv hu.hv hu.sv
theorem okImpl (x : Vals) (hx : ssz x ≤ 1048576) (u : Vals) (cu : Cp x u) (w : World) (hu : Ev w u) : Calls Try.prog 16 #[.agg u.cs.toArray] w fun e w' => e = .returned (.bool (stmtOk x.h x.l)) ∧ Below w.heap.size w w' := by
  obtain ⟨uh, ul, u1, u2, u3, u4, uv⟩ := u
  obtain ⟨e1, e2⟩ := cu
  subst e1 e2
  unfold ssz at hx
  have s1 := snodes_le x.l
  exact impl_StmtOk x.h x.l (small9_of (by omega)) (all9_of _ (by omega)) (by omega) w u1 u2 u3 u4 uv hu.hv hu.sv
/-- A copy in a variable. -/
structure Gt (w : World) (n : Nat) (v : Vals) : Prop where
  rg : w.rangeAt n 0 v.cs
  ev : Ev w v
theorem Gt.later {w w' : World} {n : Nat} {v : Vals} (t : Gt w n v) (hb : Below w.heap.size w w') : Gt w' n v := ⟨rangeAt_later t.rg hb, t.ev.later hb⟩
theorem toX (x : Vals) (hx : ssz x ≤ 1048576) (w : World) (hv : Ev w x) : Calls Try.prog 28 #[.agg x.cs.toArray] w fun e w' => ∃ v', e = .returned (.agg (Vals.cs v').toArray) ∧ (Cp x v' ∧ Ev w' v') ∧ Below w.heap.size w w' := by
  unfold ssz hsize at hx
  exact (toStmt_of x.h x.l (by omega) (by omega) (by omega) (by omega) (fun w v a => toStmtS_is x.l (by omega) w v a) w x.v1 x.v2 x.v3 x.v4 x.v hv.hv hv.sv).mono fun e w' ⟨u1, u2, u3, u4, u, h1, h2, h3, h4⟩ => ⟨⟨x.h, x.l, u1, u2, u3, u4, u⟩, h1, ⟨⟨rfl, rfl⟩, ⟨h2.low, h3.low⟩⟩, h4⟩
theorem eqX (x y : Vals) (z : Vals) (hx : ssz z ≤ 1048576) (w : World) (ca : Cp z x) (cb : Cp z y) (ha : Ev w x) (hb : Ev w y) : Calls Try.prog 29 #[.agg x.cs.toArray, .agg y.cs.toArray] w fun e w' => e = .returned (.bool true) ∧ Below w.heap.size w w' := by
  obtain ⟨xh, xl, x1, x2, x3, x4, xv⟩ := x
  obtain ⟨yh, yl, y1, y2, y3, y4, yv⟩ := y
  obtain ⟨e1, e2⟩ := ca
  obtain ⟨e3, e4⟩ := cb
  subst e1 e2 e3 e4
  unfold ssz hsize at hx
  exact eqStmt_of z.h z.l (by omega) (by omega) (by omega) (by omega) (fun w va vb a b => eqStmtS_is z.l (by omega) w va vb a b) w x1 x2 x3 x4 xv y1 y2 y3 y4 yv ha.hv ha.sv hb.hv hb.sv
theorem szX (x : Vals) (hx : vok x) (w : World) (left : Int) (hv : Ev w x) (h0 : 0 ≤ left) (h1 : left ≤ 1048576) : Calls Try.prog 27 #[.agg x.cs.toArray, .int .i64 left] w (Sz (ssz x) left w) :=
  szStmt_of x.h x.l hx.1 hx.2.1 hx.2.2.1 hx.2.2.2.1 hx.2.2.2.2.1 (fun w v left a b c => szStmtS_is x.l hx.2.2.2.2.2.2 hx.2.2.2.2.2.1 w v left a b c) w x.v1 x.v2 x.v3 x.v4 x.v left hv.hv hv.sv h0 h1
theorem oneV (x : Vals) (w : World) (e : Ev w x) : x.cs.toArray.all (·.oneCell') = true := oneS x.h x.v1 x.v2 x.v3 x.v4 x.v e.hv.e1.isOne e.hv.e2.isOne e.hv.e3.isOne e.hv.e4.isOne e.sv.isOne
set_option maxHeartbeats 4000000 in
set_option maxRecDepth 100000 in
theorem walk (x : Vals) (hx : vok x) (w : World) (ha : Ev w x) :
    Calls Try.prog 5 #[.agg x.cs.toArray] w fun e w' => e = .returned (.bool true) ∧ Below w.heap.size w w' := by
  have HX := Lib.hid hx
  have T0 := Lib.hid (Bx.start 50 ha)
  clear hx ha
  go_enter Try.func5, Try.ntmps5
  go_wp2_with (refine wpList_load_mid rfl 50 _ rfl w.heap.size 0 rfl _ _ T0.out.r1 Try.underlying50 rfl sizeLS ?_)
  refine (szX x HX.out _ 1048576 T0.out.e1 (by omega) (by omega)).mono ?_
  rintro e w1 ⟨rfl, hb1⟩
  have T1 := Lib.hid (T0.out.later hb1)
  clear hb1 T0
  by_cases hd : (1048576 : Int) < (ssz x : Int)
  · rw [if_pos hd]
    go_wp2
    go_ret
    exact ⟨rfl, T1.out.low⟩
  rw [if_neg hd]
  have kx : ssz x ≤ 1048576 := by omega
  have hn2 : ¬ (1048576 : Int) - (ssz x : Int) < 0 := by omega
  have HK := Lib.hid (And.intro kx trivial)
  obtain ⟨tv, htv⟩ : ∃ tv, stmtOk x.h x.l = tv := ⟨_, rfl⟩
  have Htv := Lib.hid htv
  clear hd kx htv
  go_wp2_with (refine wpList_load_mid rfl 50 _ rfl w.heap.size 0 rfl _ _ T1.out.r1 Try.underlying50 rfl sizeLS ?_)
  refine (toX x HK.out.1 _ T1.out.e1).mono ?_
  rintro e w2 ⟨u1, rfl, g1, hb2⟩
  have T2 := Lib.hid (T1.out.later hb2)
  have G1 := Lib.hid g1
  clear hb2 T1 g1
  go_wp2_with fail
  refine (okSpec x HK.out.1 u1 G1.out.1 _ G1.out.2).mono ?_
  rintro e w3 ⟨rfl, hb3⟩
  rw [Htv.out]
  have T3 := Lib.hid (T2.out.later hb3)
  clear hb3 T2 G1
  go_wp2_with (refine wpList_load_mid rfl 50 _ rfl w.heap.size 0 rfl _ _ T3.out.r1 Try.underlying50 rfl sizeLS ?_)
  refine (toX x HK.out.1 _ T3.out.e1).mono ?_
  rintro e w6 ⟨u7, rfl, g7, hb6⟩
  have T6 := Lib.hid (T3.out.later hb6)
  have i7 := oneV u7 _ g7.2
  have G7 := Lib.hid g7
  clear hb6 T3 g7
  go_wp2_with (first | (refine store_abs rfl 30 _ _ rfl _ _ _ rfl rfl ?ht sizeIS ?ho ?_; exact (newthere w6 _); exact i7; intro W7 hW; have HW := newblkS u7.h u7.v1 u7.v2 u7.v3 u7.v4 u7.v hW; have P7 : Hid (Gt W7 w6.heap.size u7) := ⟨HW.1, G7.out.2.later HW.2⟩; have T7 := Lib.hid (T6.out.later HW.2); have D7 := Lib.hid G7.out.1; clear hW HW T6 G7 i7) | (refine wpList_load_mid rfl 30 _ rfl w6.heap.size 0 rfl _ _ P7.out.rg Try.underlying30 rfl sizeIS ?_))
  obtain ⟨n7, hn7⟩ : ∃ n7, w6.heap.size = n7 := ⟨_, rfl⟩
  rw [hn7] at P7 ⊢
  clear hn7
  refine (okImpl x HK.out.1 u7 D7.out _ P7.out.ev).mono ?_
  rintro e wa ⟨rfl, hba⟩
  rw [Htv.out]
  have Ta := Lib.hid (T7.out.later hba)
  have Pa := Lib.hid (P7.out.later hba)
  clear hba T7 P7
  have hbb : (tv != tv) = false := by cases tv <;> rfl
  go_wp2_with fail
  have bd : Below wa.heap.size wa wa.drew := (Below.refl _ wa).drew
  have Td := Ta.out.later bd
  have Pd := Pa.out.later bd
  refine wp_region_held_drew (S := fun w' => w'.rangeAt n7 0 (u7.cs) ∧ w'.rangeAt w.heap.size 0 x.cs) (by kernel_rfl) ⟨Pd.rg, Td.r1⟩ (fun hHeld => ?_)
  refine wpAnyH_take (i := 0) (v := .agg (u7.cs).toArray) rfl (by kernel_rfl) (by kernel_rfl) (by kernel_rfl) (fun _ _ _ h => h) (yieldsIf_load_mid (by rfl) 30 _ rfl (n7) (0) rfl (u7.cs) _ (fun w h => h.1) Try.underlying30 rfl sizeIS) hHeld ?_
  simp only [Act.put, List.getElem_toArray, List.getElem_cons_succ, List.getElem_cons_zero, List.setIfInBounds_toArray, List.set_cons_zero, List.set_cons_succ]
  refine wpAnyH_take (i := 1) (v := .agg x.cs.toArray) rfl (by kernel_rfl) (by kernel_rfl) (by kernel_rfl) (fun _ _ _ h => h) (yieldsIf_load_mid (by rfl) 50 _ rfl (w.heap.size) (0) rfl x.cs _ (fun w h => h.2) Try.underlying50 rfl sizeLS) hHeld ?_
  simp only [Act.put, List.getElem_toArray, List.getElem_cons_succ, List.getElem_cons_zero, List.setIfInBounds_toArray, List.set_cons_zero, List.set_cons_succ]
  refine wpAnyH_ready (rs := [2]) (by kernel_rfl) (by simp) ?_
  refine AllReadyH.cons rfl (fun K hK => ?_) AllReadyH.nil
  rw [if_pos (by rfl)]
  simp only [List.getElem_toArray, List.getElem_cons_succ, List.getElem_cons_zero]
  go_wp2_with fail
  refine (toX x HK.out.1 _ Td.e1).mono ?_
  rintro e wb ⟨ub, rfl, gb, hbb2⟩
  go_wp2_with fail
  refine hK.out _ _ (⟨rangeAt_later hHeld.1 hbb2, rangeAt_later hHeld.2 hbb2⟩) (fun hHeld => ?_)
  have Pb := Pd.later hbb2
  refine wpAnyH_ready (rs := [3]) (by kernel_rfl) (by simp) ?_
  refine AllReadyH.cons rfl (fun K hK => ?_) AllReadyH.nil
  rw [if_pos (by rfl)]
  simp only [List.getElem_toArray, List.getElem_cons_succ, List.getElem_cons_zero]
  go_wp2_with fail
  refine (eqX u7 ub x HK.out.1 _ D7.out gb.1 Pb.ev gb.2).mono ?_
  rintro e wc ⟨rfl, hbc⟩
  go_wp2_with fail
  refine hK.out _ _ (⟨rangeAt_later hHeld.1 hbc, rangeAt_later hHeld.2 hbc⟩) (fun hHeld => ?_)
  have Te := ((Td.later hbb2).later hbc).low
  clear bd Td Pd Pb gb hbb2 hbc Ta Pa
  refine wpAnyH_take (i := 4) (v := .bool false) rfl (by kernel_rfl) (by kernel_rfl) (by kernel_rfl) (fun _ _ _ h => h) (Or.inl ⟨by rfl, ?yb4⟩) hHeld ?_
  case yb4 => intro w hSw; go_simp
  simp only [Act.put, List.getElem_toArray, List.getElem_cons_succ, List.getElem_cons_zero, List.setIfInBounds_toArray, List.set_cons_zero, List.set_cons_succ]
  refine wpAnyH_done (by kernel_rfl) ?_ _
  clear hHeld
  go_wp2
  go_ret
  exact ⟨rfl, Te⟩
set_option maxRecDepth 100000 in
theorem lifted (os : Os) (started : os.Started) (H : Type) (enc : TypeId × Value → H) :
    ReturnsInHanded {} Try.checked os 5 .any (Rows.fnExactStmtOkSpec.pre6 enc Try.prog Try.f5 Rows.fnExactStmtOkRow.domain false) (Rows.fnExactStmtOkSpec.post enc Try.prog Try.f5 false true false false) := by
  refine returnsInHanded_of_change (C := Try.checked) own started (by kernel_rfl) Try.func5
    (ChangeSpec.witness6 (enc := enc) (C := Try.checked) false ⟨#[], #[.agg #[.int .i64 0, .string ByteArray.empty, .int .i64 0, .int .i64 0, .string ByteArray.empty, .slice none 0 0, .int .i64 0, .int .i64 0, .string ByteArray.empty, .slice none 0 0, .int .i64 0, .int .i64 0, .string ByteArray.empty, .slice none 0 0, .int .i64 0, .int .i64 0, .string ByteArray.empty, .slice none 0 0, .slice none 0 0]], []⟩ 8 (by kernel_rfl) (by kernel_rfl) (by kernel_rfl) (by kernel_rfl)) ?_
  intro W base args ds gs before hval0 hW hcnd _
  have hW' := hW
  obtain ⟨p, q, hA0, hV, rfl, hfz, hnd⟩ := hW
  have hA : DataW.TrodAll enc Try.prog W 0 (fun _ => true) true Try.f5.params.toList args.toList ds p := hA0
  have hval : ∀ (j : Nat) t v, Try.f5.params[j]? = some t → args[j]? = some v → Value.okWide Try.prog W .any base t v := hval0
  rw [Try.params5] at hA hval
  obtain ⟨v0, vs0, d0, ds0, p0, q0, hargs, rfl, rfl, h0, r0⟩ := trodAll_cons hA
  obtain ⟨rfl, rfl, rfl⟩ := trodAll_nil r0
  obtain rfl : args = #[v0] := by cases args; simp_all
  obtain ⟨rfl, rfl⟩ := trodVars_none hV
  obtain ⟨cs0, rfl, _⟩ := okWide_struct Try.underlying50 (hval 0 50 v0 rfl rfl)
  have k0 := h0
  have lt0 : ∀ x ∈ p0, x.block < W.heap.size := by obtain ⟨m, hm⟩ := k0; exact DataW.trod_lt m _ _ _ hm
  obtain ⟨x0, l0, a0, b0, c0, d0', u0, hxo0, hev0, hsv0, hcs0⟩ : ∃ (h : SH) (l : SF) (v1 v2 v3 v4 v : Value), (h.s.size ≤ 9223372036854775807 ∧ xok h.x1 ∧ xok h.x2 ∧ xok h.x3 ∧ xok h.x4 ∧ slen l ≤ 9223372036854775807 ∧ sok l) ∧ HV W 0 h v1 v2 v3 v4 ∧ SV W 0 l v ∧ cs0 = (scells h v1 v2 v3 v4 v).toArray := by
    obtain ⟨fuel, hf⟩ := h0
    obtain ⟨h, l, v1, v2, v3, v4, v, e, h1, h2, h3⟩ := open_stmt hf
    have e2 : cs0.toList = scells h v1 v2 v3 v4 v := by simpa [Value.cells] using e
    exact ⟨h, l, v1, v2, v3, v4, v, h1, h2, h3, by rw [← e2]⟩
  subst hcs0
  clear hA0 hval0
  refine (walk ⟨x0, l0, a0, b0, c0, d0', u0⟩ hxo0 W ⟨hev0, hsv0⟩).mono fun e W' ⟨he, bel⟩ => ?_
  subst he
  exact ⟨_, rfl, _, _, _, [], _, [], hW', trodAll_mk1 (shut_bool Try.underlying4 _), (trodAll_cons_mk (Below.trod laidOut (by kernel_rfl) (of_decide_eq_true (by kernel_rfl)) k0 bel lt0) trodAll_mk0), rfl, bel.frame _, fun h => by cases h⟩

theorem over : Rows.fnExactStmtOkRow.holds Try.pinned (OpenSpec.ofChange Rows.fnExactStmtOkSpec) :=
  OpenClaim.holds_of_wide 5 Try.f5 rfl rfl rfl rfl rfl rfl rfl ⟨rfl, rfl, rfl, rfl, rfl⟩ rfl rfl rfl rfl rfl (by kernel_rfl) Try.func5 (by kernel_rfl)
    (of_decide_eq_true (by kernel_rfl)) (by unfold Func.isWrapper; first | (rw [if_pos (by decide +kernel)]; kernel_rfl) | (rw [if_neg (by decide +kernel)]; exact ⟨rfl, rfl⟩))
    (fun os started H enc _ => lifted os started H enc)

end Go.Proofs.Ytlepidbgebfglaa.fnExactStmtOk
namespace Go.Proofs.Ytlepidbgebfglaa
/-- THE STATEMENT -/
theorem fnExactStmtOk_holds : Rows.FnExactStmtOkSaid := fnExactStmtOk.over
#print axioms fnExactStmtOk_holds
end Go.Proofs.Ytlepidbgebfglaa
