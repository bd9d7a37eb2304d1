/-
  PROVED: at the landed commit laws.FnExactExpText returns true for every expression that can be read (no list of it stands in itself: the row's own cell 'loops'): impl.ExpText answers as the specification's ExpText and writes into no argument; the listed package-level variables of Go's library start as the program's text lays them (the card ties them).
-/
import Derived.Test.YtkilmefpaojkfaaDoorRows
import Derived.Test.YtkilmefpaojkfaaDoorTie
import Derived.Test.YtkilmefpaojkfaaDoorCards
import Derived.Test.YtkilmefpaojkfaaDoorP01ofExpText
import Derived.Test.YtkilmefpaojkfaaDoorP09ofExpText
import Derived.Test.YtkilmefpaojkfaaDoorP02ofExpText
import Derived.WalkKit
import Derived.ProofKit
import Derived.OpenShut
import Derived.ShutString
import Derived.ChangeOld
import Derived.Below
import Derived.LaidMore
import Derived.SevenTiedAt
import Derived.Stop.Joined
namespace Go.Proofs.YtkilmefpaojkfaaDoor.fnExactExpText
open Go.ChangeShapes Go.WideShapes Go.ChangeAt Go.RowKit
set_option linter.unusedVariables false
set_option linter.unusedSimpArgs false

theorem own : ownKnob Tryd.prog.godebug = none := by kernel_rfl
theorem laidOut : laidOutB Tryd.prog = true := by kernel_rfl
/-- The argument in its box. -/
structure Bx (w0 w : World) (N : Nat) (x : X) (va : Value) : Prop where
  r1 : w.rangeAt N 0 (xcells x va)
  e1 : EV w 0 x.l va
  low : Below w0.heap.size w0 w
theorem Bx.later {w0 w w' : World} {N : Nat} {x : X} {va : Value} (t : Bx w0 w N x va) (hb : Below w.heap.size w w') : Bx w0 w' N x va :=
  ⟨rangeAt_later t.r1 hb, t.e1.later hb, t.low.trans (hb.mono t.low.size)⟩
theorem Bx.start {w : World} {x : X} {va : Value} (t : TypeId) (ha : EV w 0 x.l va) : Bx w (w.alloc (.cells (xcells x va).toArray t)) w.heap.size x va :=
  ⟨new_range w (xcells x va).toArray t, ha.later (alloc_below _ _), alloc_below _ _⟩
/-- A copy in a variable. -/
structure Gt (w : World) (n : Nat) (x : X) (v : Value) : Prop where
  rg : w.rangeAt n 0 (xcells x v)
  ev : EV w 0 x.l v
theorem Gt.later {w w' : World} {n : Nat} {x : X} {v : Value} (t : Gt w n x v) (hb : Below w.heap.size w w') : Gt w' n x v := ⟨rangeAt_later t.rg hb, t.ev.later hb⟩
theorem toX (x : X) (hx : xsize x ≤ 1048576) (w : World) (v : Value) (hv : EV w 0 x.l v) : Calls Tryd.prog 6 #[.agg (xcells x v).toArray] w fun e w' => ∃ v', e = .returned (.agg (xcells x v').toArray) ∧ EV w' 0 x.l v' ∧ Below w.heap.size w w' :=
  (toExp_is x hx w v hv).mono fun e w' ⟨v', h1, h2, h3⟩ => ⟨v', h1, h2.low, h3⟩
theorem eqX (x : X) (hx : xsize x ≤ 1048576) (w : World) (va vb : Value) (ha : EV w 0 x.l va) (hb : EV w 0 x.l vb) : Calls Tryd.prog 8 #[.agg (xcells x va).toArray, .agg (xcells x vb).toArray] w fun e w' => e = .returned (.bool true) ∧ Below w.heap.size w w' := eqExp_is x hx w va vb ha hb
theorem szX (x : X) (hx : xok x) (w : World) (v : Value) (left : Int) (hv : EV w 0 x.l v) (h0 : 0 ≤ left) (h1 : left ≤ 1048576) : Calls Tryd.prog 4 #[.agg (xcells x v).toArray, .int .i64 left] w (Sz (xsize x) left w) := szExp_is x hx w v left hv h0 h1
set_option maxHeartbeats 4000000 in
set_option maxRecDepth 100000 in
theorem walk (x : X) (hx : xok x) (va : Value) (w : World) (ha : EV w 0 x.l va) (hTab : TabT w) :
    Calls Tryd.prog 3 #[.agg (xcells x va).toArray] w fun e w' => e = .returned (.bool true) ∧ Below w.heap.size w w' := by
  have HX := Lib.hid hx
  have HTab := Lib.hid hTab
  have T0 := Lib.hid (Bx.start 24 ha)
  clear hx ha hTab
  go_enter Tryd.func3, Tryd.ntmps3
  go_wp2_with (refine wpList_load_mid rfl 24 _ rfl w.heap.size 0 rfl _ _ T0.out.r1 Tryd.underlying24 rfl sizeLE ?_)
  refine (szX x HX.out _ va 1048576 T0.out.e1 (by omega) (by omega)).mono ?_
  rintro e w1 ⟨rfl, hb1⟩
  have T1 := Lib.hid (T0.out.later hb1)
  clear hb1 T0
  by_cases hd : (1048576 : Int) < (xsize x : Int)
  · rw [if_pos hd]
    go_wp2
    go_ret
    exact ⟨rfl, T1.out.low⟩
  rw [if_neg hd]
  have kx : xsize x ≤ 1048576 := by omega
  have hn2 : ¬ (1048576 : Int) - (xsize x : Int) < 0 := by omega
  have nx : enodes x.l ≤ 9000000 := by have := enodes_le x.l; unfold xsize at kx; omega
  have HK := Lib.hid (And.intro kx nx)
  obtain ⟨tv, htv⟩ : ∃ tv, str (expT x) = tv := ⟨_, rfl⟩
  have Htv := Lib.hid htv
  clear hd kx nx htv
  go_wp2_with (refine wpList_load_mid rfl 24 _ rfl w.heap.size 0 rfl _ _ T1.out.r1 Tryd.underlying24 rfl sizeLE ?_)
  refine (toX x HK.out.1 _ va T1.out.e1).mono ?_
  rintro e w2 ⟨u1, rfl, g1, hb2⟩
  have T2 := Lib.hid (T1.out.later hb2)
  have G1 := Lib.hid g1
  clear hb2 T1 g1
  go_wp2_with fail
  refine (spec_ExpText x HK.out.1 _ u1 G1.out).mono ?_
  rintro e w3 ⟨rfl, hb3⟩
  rw [Htv.out]
  have T3 := Lib.hid (T2.out.later hb3)
  clear hb3 T2 G1
  go_wp2_with (refine wpList_load_mid rfl 24 _ rfl w.heap.size 0 rfl _ _ T3.out.r1 Tryd.underlying24 rfl sizeLE ?_)
  refine (toX x HK.out.1 _ va T3.out.e1).mono ?_
  rintro e w6 ⟨u7, rfl, g7, hb6⟩
  have T6 := Lib.hid (T3.out.later hb6)
  have i7 := g7.isOne
  have G7 := Lib.hid g7
  clear hb6 T3 g7
  go_wp2_with (first | (refine store_abs rfl 29 _ _ rfl _ _ _ rfl rfl ?ht sizeIE2 ?ho ?_; exact (newthere4 w6 _); exact (oneX x u7 i7); intro W7 hW; have HW := newblk4 x u7 hW; have P7 : Hid (Gt W7 w6.heap.size x u7) := ⟨HW.1, G7.out.later HW.2⟩; have T7 := Lib.hid (T6.out.later HW.2); clear hW HW T6 G7 i7) | (refine wpList_load_mid rfl 29 _ rfl w6.heap.size 0 rfl _ _ P7.out.rg Tryd.underlying29 rfl sizeIE2 ?_))
  obtain ⟨n7, hn7⟩ : ∃ n7, w6.heap.size = n7 := ⟨_, rfl⟩
  rw [hn7] at P7 ⊢
  clear hn7
  refine (impl_ExpText x HK.out.1 _ u7 P7.out.ev (HTab.out.later T7.out.low)).mono ?_
  rintro e wa ⟨rfl, hba⟩
  rw [Htv.out]
  have Ta := Lib.hid (T7.out.later hba)
  have Pa := Lib.hid (P7.out.later hba)
  clear hba T7 P7
  have hbb : (tv.toList != tv.toList) = false := by simp
  go_wp2_with fail
  have bd : Below wa.heap.size wa wa.drew := (Below.refl _ wa).drew
  have Td := Ta.out.later bd
  have Pd := Pa.out.later bd
  refine wp_region_held_drew (S := fun w' => w'.rangeAt n7 0 (xcells x u7) ∧ w'.rangeAt w.heap.size 0 (xcells x va)) (by kernel_rfl) ⟨Pd.rg, Td.r1⟩ (fun hHeld => ?_)
  refine wpAnyH_take (i := 0) (v := .agg (xcells x u7).toArray) rfl (by kernel_rfl) (by kernel_rfl) (by kernel_rfl) (fun _ _ _ h => h) (yieldsIf_load_mid (by rfl) 29 _ rfl (n7) (0) rfl (xcells x u7) _ (fun w h => h.1) Tryd.underlying29 rfl sizeIE2) hHeld ?_
  simp only [Act.put, List.getElem_toArray, List.getElem_cons_succ, List.getElem_cons_zero, List.setIfInBounds_toArray, List.set_cons_zero, List.set_cons_succ]
  refine wpAnyH_take (i := 1) (v := .agg (xcells x va).toArray) rfl (by kernel_rfl) (by kernel_rfl) (by kernel_rfl) (fun _ _ _ h => h) (yieldsIf_load_mid (by rfl) 24 _ rfl (w.heap.size) (0) rfl (xcells x va) _ (fun w h => h.2) Tryd.underlying24 rfl sizeLE) hHeld ?_
  simp only [Act.put, List.getElem_toArray, List.getElem_cons_succ, List.getElem_cons_zero, List.setIfInBounds_toArray, List.set_cons_zero, List.set_cons_succ]
  refine wpAnyH_ready (rs := [2]) (by kernel_rfl) (by simp) ?_
  refine AllReadyH.cons rfl (fun K hK => ?_) AllReadyH.nil
  rw [if_pos (by rfl)]
  simp only [List.getElem_toArray, List.getElem_cons_succ, List.getElem_cons_zero]
  go_wp2_with fail
  refine (toX x HK.out.1 _ va Td.e1).mono ?_
  rintro e wb ⟨ub, rfl, gb, hbb2⟩
  go_wp2_with fail
  refine hK.out _ _ (⟨rangeAt_later hHeld.1 hbb2, rangeAt_later hHeld.2 hbb2⟩) (fun hHeld => ?_)
  have Pb := Pd.later hbb2
  refine wpAnyH_ready (rs := [3]) (by kernel_rfl) (by simp) ?_
  refine AllReadyH.cons rfl (fun K hK => ?_) AllReadyH.nil
  rw [if_pos (by rfl)]
  simp only [List.getElem_toArray, List.getElem_cons_succ, List.getElem_cons_zero]
  go_wp2_with fail
  refine (eqX x HK.out.1 _ u7 ub Pb.ev gb).mono ?_
  rintro e wc ⟨rfl, hbc⟩
  go_wp2_with fail
  refine hK.out _ _ (⟨rangeAt_later hHeld.1 hbc, rangeAt_later hHeld.2 hbc⟩) (fun hHeld => ?_)
  have Te := ((Td.later hbb2).later hbc).low
  clear bd Td Pd Pb gb hbb2 hbc Ta Pa
  refine wpAnyH_take (i := 4) (v := .bool false) rfl (by kernel_rfl) (by kernel_rfl) (by kernel_rfl) (fun _ _ _ h => h) (Or.inl ⟨by rfl, ?yb4⟩) hHeld ?_
  case yb4 => intro w hSw; go_simp
  simp only [Act.put, List.getElem_toArray, List.getElem_cons_succ, List.getElem_cons_zero, List.setIfInBounds_toArray, List.set_cons_zero, List.set_cons_succ]
  refine wpAnyH_done (by kernel_rfl) ?_ _
  clear hHeld
  go_wp2
  go_ret
  exact ⟨rfl, Te⟩
theorem door_met (os : Os) (args : Array Value) : laidMetH Tryd.prog Rows.fnExactExpTextRow.laid ((World.doorLaid Tryd.prog 24 os).forCall (fun _ _ => 0) ⟨#[], args, []⟩).memory :=
  laidMetH_of_parts3 (fuel := 8) (laidMet_of_run' 8 (by kernel_rfl) (by kernel_rfl)) (by kernel_rfl) (by kernel_rfl)

set_option maxRecDepth 100000 in
theorem lifted (os : Os) (started : os.Started) (H : Type) (enc : TypeId × Value → H) :
    ReturnsInHanded {} Tryd.checked os 3 .any (fun w args => (Rows.fnExactExpTextSpec.pre enc Tryd.prog Tryd.f3 [] false w args ∧ laidMetH Tryd.prog Rows.fnExactExpTextRow.laid w) ∧ sizedMet enc Tryd.prog Tryd.f3 (OpenSpec.ofChange Rows.fnExactExpTextSpec) false w args)
      (Rows.fnExactExpTextSpec.post enc Tryd.prog Tryd.f3 false true false false) := by
  refine returnsInHanded_of_change_and (C := Tryd.checked) (X := fun w _ => laidMetH Tryd.prog Rows.fnExactExpTextRow.laid w) (fun _ _ _ hh h => h.of_heap hh) own started (by kernel_rfl) Tryd.func3
    (ChangeSpec.witness_shaped (enc := enc) (C := Tryd.checked) (os := os) (X := fun w _ => laidMetH Tryd.prog Rows.fnExactExpTextRow.laid w) false (World.doorLaid Tryd.prog 24 os) #[.agg #[.int .i64 0, .int .i64 0, .string ByteArray.empty, .slice none 0 0]] 8 rfl (World.shaped_of_RefB (by kernel_rfl) (by kernel_rfl)) (by kernel_rfl) (by kernel_rfl) (by kernel_rfl) (door_met os _)) ?_
  intro W base args ds gs before hval0 hW _ _ hL _
  have hval : ∀ (j : Nat) t v, Tryd.f3.params[j]? = some t → args[j]? = some v → Value.okWide Tryd.prog W .any base t v := hval0
  have hW' := hW
  obtain ⟨p, q, hA0, hV, rfl, hfz, hnd⟩ := hW
  have hA : DataW.TrodAll enc Tryd.prog W 0 (fun _ => true) true Tryd.f3.params.toList args.toList ds p := hA0
  rw [Tryd.params3] at hA hval
  obtain ⟨v0, vs0, d0, ds0, p0, q0, hargs, rfl, rfl, h0, r0⟩ := trodAll_cons hA
  obtain ⟨rfl, rfl, rfl⟩ := trodAll_nil r0
  obtain rfl : args = #[v0] := by cases args; simp_all
  obtain ⟨rfl, rfl⟩ := trodVars_none hV
  obtain ⟨cs0, rfl, _⟩ := okWide_struct Tryd.underlying24 (hval 0 24 v0 rfl rfl)
  have k0 := h0
  have lt0 : ∀ x ∈ p0, x.block < W.heap.size := by obtain ⟨m, hm⟩ := k0; exact DataW.trod_lt m _ _ _ hm
  obtain ⟨x0, u0, hxo0, hev0, hcs0⟩ : ∃ (x : X) (v : Value), xok x ∧ EV W 0 x.l v ∧ cs0 = (xcells x v).toArray := by
    obtain ⟨fuel, hf⟩ := h0
    obtain ⟨x, v, e, h1, h2⟩ := open_exp hf
    have e2 : cs0.toList = xcells x v := by simpa [Value.cells] using e
    exact ⟨x, v, h1, h2, by rw [← e2]⟩
  subst hcs0
  have hE : TabT W := by
    have hL' := hL
    rw [MakeChecks.laidMetH_plain _ _ _ (by kernel_rfl)] at hL'
    exact tab_of (laidMet.tail (laidMet.tail hL'))
  clear hA0 hval0
  refine (walk x0 hxo0 u0 W hev0 hE).mono fun e W' ⟨he, bel⟩ => ?_
  subst he
  exact ⟨_, rfl, _, _, _, [], _, [], hW', trodAll_mk1 (shut_bool Tryd.underlying4 _), (trodAll_cons_mk (Below.trod laidOut (by kernel_rfl) (of_decide_eq_true (by kernel_rfl)) k0 bel lt0) trodAll_mk0), rfl, bel.frame _, fun h => by cases h⟩

theorem over : Rows.FnExactExpTextSaid :=
  OpenClaim.holds_of_wide 3 Tryd.f3 rfl rfl rfl rfl rfl rfl rfl ⟨rfl, rfl, rfl, rfl, rfl⟩ rfl rfl rfl rfl rfl (by kernel_rfl) Tryd.func3 (by kernel_rfl)
    (of_decide_eq_true (by kernel_rfl)) (by unfold Func.isWrapper; first | (rw [if_pos (by decide +kernel)]; kernel_rfl) | (rw [if_neg (by decide +kernel)]; exact ⟨rfl, rfl⟩))
    (fun os started H enc _ => lifted os started H enc)

theorem card : Rows.FnExactExpTextCardSaid :=
  Claim7.holds_tied_plain_at .later [] [.data, .data, .data] true (true, "d6ea6d8a9f69d4f369b9936e7a60169219de133934f43d4a5ad6db8bea9e7e15") true
    over (fun _ h => by cases h) (by kernel_rfl) (fun _ h => by cases h) fnExactExpText_row_tie rfl ⟨rfl, rfl⟩ (by kernel_rfl) rfl
    (fun f fn hf hfn => by
      obtain rfl : f = 3 := Option.some.inj ((show Tryd.prog.funcNamed Rows.fnExactExpTextRow.func = some 3 by kernel_rfl).symm.trans hf) |>.symm
      obtain rfl : fn = Tryd.f3 := (Option.some.inj (Tryd.func3.symm.trans hfn)).symm
      exact ⟨by kernel_rfl, fun j t ht => by
        rw [Tryd.params3] at ht
        have hm : t ∈ [ 24 ] := by simpa using Array.mem_of_getElem? ht
        have hall : ([ 24 ].all fun u => !Tryd.prog.wantsStandIn u) = true := by kernel_rfl
        exact (show Tryd.prog.wantsStandIn t = false by simpa using List.all_eq_true.1 hall t hm)⟩)
    (by kernel_rfl)
end Go.Proofs.YtkilmefpaojkfaaDoor.fnExactExpText
namespace Go.Proofs.YtkilmefpaojkfaaDoor
/-- THE STATEMENT -/
theorem fnExactExpText_holds : Rows.FnExactExpTextCardSaid := fnExactExpText.card
#print axioms fnExactExpText_holds
end Go.Proofs.YtkilmefpaojkfaaDoor
