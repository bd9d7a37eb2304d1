/-
  PROVED: at the landed commit laws.FnExactProgText returns true for every program that can be read (no list of it stands in itself: the row's own cell 'loops'): impl.ProgText answers as the specification's ProgText and writes into no argument; the listed package-level variables of Go's library start as the program's text lays them (the card ties them).
-/
import Derived.Test.YtkhccpjkajhnpabGreatDoorRows
import Derived.Test.YtkhccpjkajhnpabGreatDoorTie
import Derived.Test.YtkhccpjkajhnpabGreatDoorCards
import Derived.Test.YtkhccpjkajhnpabGreatDoorP22ofProgText
import Derived.WalkKit
import Derived.ProofKit
import Derived.OpenShut
import Derived.ShutString
import Derived.ChangeOld
import Derived.Below
import Derived.LaidMore
import Derived.SevenTiedAt
import Derived.Stop.Joined
import Derived.Test.YtkhccpjkajhnpabGreatDoorP12ofProgText
import Derived.ChangeMaps5
import Derived.Deep.RegionHeld
namespace Go.Proofs.YtkhccpjkajhnpabGreatDoor.fnExactProgText
open Go.ChangeShapes Go.WideShapes Go.ChangeAt Go.RowKit Go.Lib
set_option linter.unusedVariables false
set_option linter.unusedSimpArgs false

theorem abytes_mem {ts : List AR} {t : AR} (h : t ∈ ts) : t.s.size ≤ abytes ts := by
  induction ts with
  | nil => simp at h
  | cons u us ih =>
    rcases List.mem_cons.1 h with rfl | h
    · simp only [abytes]; omega
    · have := ih h; simp only [abytes]; omega
theorem own : ownKnob Tryz.prog.godebug = none := by kernel_rfl
theorem laidOut : laidOutB Tryz.prog = true := by kernel_rfl
set_option maxHeartbeats 2000000 in
set_option maxRecDepth 100000 in
theorem walk (ts : List AR) (F : SF) (hts : ∀ t ∈ ts, t.s.size ≤ 9223372036854775807) (hM : ts.length ≤ 9223372036854775807) (hF : sok F) (hS : slen F ≤ 9223372036854775807) (va vb : Value) (w : World) (ha : AV w 0 va ts) (hb : SV w 0 F vb) (hTab : TabT w) :
    Calls Tryz.prog 3 #[.agg #[va, vb]] w fun e w' => e = .returned (.bool true) ∧ Below w.heap.size w w' := by
  have HX := Lib.hid (And.intro hts (And.intro hM (And.intro hF hS)))
  have HTab := Lib.hid hTab
  have T0 := Lib.hid (Pt.start 25 ha hb)
  clear hts hM hF hS ha hb hTab
  go_enter Tryz.func3, Tryz.ntmps3
  go_wp2_with (refine wpList_load_mid rfl 25 _ rfl w.heap.size 0 rfl _ _ T0.out.rg Tryz.underlying25 rfl sizeLP ?_)
  refine (szProg_is ts F HX.out.1 HX.out.2.1 HX.out.2.2.1 HX.out.2.2.2 va vb _ T0.out.av T0.out.sv).mono ?_
  rintro e w1 ⟨rfl, hb1⟩
  have T1 := Lib.hid (T0.out.later hb1)
  clear hb1 T0
  by_cases hd : (1048576 : Int) < ((asize ts + ssize F : Nat) : Int)
  · rw [if_pos hd]
    go_wp2
    go_ret
    exact ⟨rfl, T1.out.low⟩
  rw [if_neg hd]
  have kn : ts.length ≤ 1048576 := by unfold asize at hd; omega
  have ks : ssize F ≤ 1048576 := by omega
  have kt : ∀ t ∈ ts, t.s.size ≤ 1048576 := fun t ht => by have := abytes_mem ht; unfold asize at hd; omega
  have km : (sallE F).length ≤ 10000000 := by have := sallE_len F; omega
  have hn2 : ¬ (1048576 : Int) - ((asize ts + ssize F : Nat) : Int) < 0 := by omega
  have HK := Lib.hid (And.intro kn ks)
  have HK2 := Lib.hid (And.intro kt km)
  obtain ⟨tv, htv⟩ : ∃ tv, str (progT ts F) = tv := ⟨_, rfl⟩
  have Htv := Lib.hid htv
  clear hd kn ks htv kt km
  go_wp2_with (refine wpList_load_mid rfl 25 _ rfl w.heap.size 0 rfl _ _ T1.out.rg Tryz.underlying25 rfl sizeLP ?_)
  refine (toProg_is ts F HK.out.1 HK.out.2 va vb _ T1.out.av T1.out.sv).mono ?_
  rintro e w2 ⟨ua, ub, rfl, g1, g2, hb2⟩
  have T2 := Lib.hid (T1.out.later hb2)
  have i2 := g2.isOne
  have G1 := Lib.hid (And.intro g1 g2)
  clear hb2 T1 g1 g2
  go_wp2_with fail
  refine (spec_ProgText ts HK.out.1 HK2.out.1 F HK.out.2 HK2.out.2 ua ub _ G1.out.1 G1.out.2).mono ?_
  rintro e w3 ⟨rfl, hb3⟩
  rw [Htv.out]
  have T3 := Lib.hid (T2.out.later hb3)
  clear hb3 T2 G1
  go_wp2_with (refine wpList_load_mid rfl 25 _ rfl w.heap.size 0 rfl _ _ T3.out.rg Tryz.underlying25 rfl sizeLP ?_)
  refine (toProg_is ts F HK.out.1 HK.out.2 va vb _ T3.out.av T3.out.sv).mono ?_
  rintro e w6 ⟨u7, u8, rfl, g7, g8, hb6⟩
  have T6 := Lib.hid (T3.out.later hb6)
  have i7 := g7.isOne
  have i8 := g8.isOne
  have G7 := Lib.hid (And.intro g7 g8)
  clear hb6 T3 g7 g8
  go_wp2_with (first | (refine store_abs rfl 31 _ _ rfl _ _ _ rfl rfl ?ht sizeIP ?ho ?_; exact (newthere2 w6 _ _ _); exact (oneP i7 i8); intro W7 hW; have HW := newblk2 u7 u8 hW; have P7 : Hid (Pt w6 W7 w6.heap.size u7 u8 ts F) := ⟨HW.1, G7.out.1.later HW.2, G7.out.2.later HW.2, HW.2⟩; have T7 := Lib.hid (T6.out.later HW.2); clear hW HW T6 G7 i7) | (refine wpList_load_mid rfl 31 _ rfl w6.heap.size 0 rfl _ _ P7.out.rg Tryz.underlying31 rfl sizeIP ?_))
  obtain ⟨n7, hn7⟩ : ∃ n7, Hid (w6.heap.size = n7) := ⟨_, rfl⟩
  have P7' : Hid (Pt w6 W7 n7 u7 u8 ts F) := by rw [← hn7.out]; exact P7
  clear P7
  rw [show w6.heap.size = n7 from hn7.out]
  refine (impl_ProgText ts HK.out.1 HK2.out.1 F HK.out.2 u7 u8 _ P7'.out.av P7'.out.sv (HTab.out.later T7.out.low)).mono ?_
  rintro e wa ⟨rfl, hba⟩
  rw [Htv.out]
  have Ta := Lib.hid (T7.out.later hba)
  have Pa := Lib.hid (P7'.out.later hba)
  clear hba T7 P7'
  have hbb : (tv.toList != tv.toList) = false := by simp
  go_wp2_with fail
  have bd : Below wa.heap.size wa wa.drew := (Below.refl _ wa).drew
  have Td := Ta.out.later bd
  have Pd := Pa.out.later bd
  refine wp_region_held_drew (S := fun w' => w'.rangeAt n7 0 [u7, u8] ∧ w'.rangeAt w.heap.size 0 [va, vb]) (by kernel_rfl) ⟨Pd.rg, Td.rg⟩ (fun hHeld => ?_)
  refine wpAnyH_take (i := 0) (v := .agg #[u7, u8]) rfl (by kernel_rfl) (by kernel_rfl) (by kernel_rfl) (fun _ _ _ h => h) (yieldsIf_load_mid (by rfl) 31 _ rfl (n7) (0) rfl [u7, u8] _ (fun w h => h.1) Tryz.underlying31 rfl sizeIP) hHeld ?_
  simp only [Act.put, List.getElem_toArray, List.getElem_cons_succ, List.getElem_cons_zero, List.setIfInBounds_toArray, List.set_cons_zero, List.set_cons_succ]
  refine wpAnyH_take (i := 1) (v := .agg #[va, vb]) rfl (by kernel_rfl) (by kernel_rfl) (by kernel_rfl) (fun _ _ _ h => h) (yieldsIf_load_mid (by rfl) 25 _ rfl (w.heap.size) (0) rfl [va, vb] _ (fun w h => h.2) Tryz.underlying25 rfl sizeLP) hHeld ?_
  simp only [Act.put, List.getElem_toArray, List.getElem_cons_succ, List.getElem_cons_zero, List.setIfInBounds_toArray, List.set_cons_zero, List.set_cons_succ]
  refine wpAnyH_ready (rs := [2]) (by kernel_rfl) (by simp) ?_
  refine AllReadyH.cons rfl (fun K hK => ?_) AllReadyH.nil
  rw [if_pos (by rfl)]
  simp only [List.getElem_toArray, List.getElem_cons_succ, List.getElem_cons_zero]
  go_wp2_with fail
  refine (toProg_is ts F HK.out.1 HK.out.2 va vb _ Td.av Td.sv).mono ?_
  rintro e wb ⟨ua, ub, rfl, ga, gb, hbb2⟩
  go_wp2_with fail
  refine hK.out _ _ (⟨rangeAt_later hHeld.1 hbb2, rangeAt_later hHeld.2 hbb2⟩) (fun hHeld => ?_)
  have Pb := Pd.later hbb2
  refine wpAnyH_ready (rs := [3]) (by kernel_rfl) (by simp) ?_
  refine AllReadyH.cons rfl (fun K hK => ?_) AllReadyH.nil
  rw [if_pos (by rfl)]
  simp only [List.getElem_toArray, List.getElem_cons_succ, List.getElem_cons_zero]
  go_wp2_with fail
  refine (eqProg_same ts F HK.out.1 HK.out.2 u7 u8 ua ub _ Pb.av Pb.sv ga gb).mono ?_
  rintro e wc ⟨rfl, hbc⟩
  go_wp2_with fail
  refine hK.out _ _ (⟨rangeAt_later hHeld.1 hbc, rangeAt_later hHeld.2 hbc⟩) (fun hHeld => ?_)
  have Te := ((Td.later hbb2).later hbc).low
  clear bd Td Pd Pb ga gb hbb2 hbc Ta Pa
  refine wpAnyH_take (i := 4) (v := .bool false) rfl (by kernel_rfl) (by kernel_rfl) (by kernel_rfl) (fun _ _ _ h => h) (Or.inl ⟨by rfl, ?yb4⟩) hHeld ?_
  case yb4 => intro w hSw; go_simp
  simp only [Act.put, List.getElem_toArray, List.getElem_cons_succ, List.getElem_cons_zero, List.setIfInBounds_toArray, List.set_cons_zero, List.set_cons_succ]
  refine wpAnyH_done (by kernel_rfl) ?_ _
  clear hHeld
  go_wp2
  go_ret
  exact ⟨rfl, Te⟩
theorem door_met (os : Os) (args : Array Value) : laidMetH Tryz.prog Rows.fnExactProgTextRow.laid ((World.doorLaid Tryz.prog 24 os).forCall (fun _ _ => 0) ⟨#[], args, []⟩).memory :=
  laidMetH_of_parts3 (fuel := 8) (laidMet_of_run' 8 (by kernel_rfl) (by kernel_rfl)) (by kernel_rfl) (by kernel_rfl)

set_option maxRecDepth 100000 in
theorem lifted (os : Os) (started : os.Started) (H : Type) (enc : TypeId × Value → H) :
    ReturnsInHanded {} Tryz.checked os 3 .any (fun w args => (Rows.fnExactProgTextSpec.pre enc Tryz.prog Tryz.f3 [] false w args ∧ laidMetH Tryz.prog Rows.fnExactProgTextRow.laid w) ∧ sizedMet enc Tryz.prog Tryz.f3 (OpenSpec.ofChange Rows.fnExactProgTextSpec) false w args)
      (Rows.fnExactProgTextSpec.post enc Tryz.prog Tryz.f3 false true false false) := by
  refine returnsInHanded_of_change_and (C := Tryz.checked) (X := fun w _ => laidMetH Tryz.prog Rows.fnExactProgTextRow.laid w) (fun _ _ _ hh h => h.of_heap hh) own started (by kernel_rfl) Tryz.func3
    (ChangeSpec.witness_shaped (enc := enc) (C := Tryz.checked) (os := os) (X := fun w _ => laidMetH Tryz.prog Rows.fnExactProgTextRow.laid w) false (World.doorLaid Tryz.prog 24 os) #[.agg #[.slice none 0 0, .slice none 0 0]] 8 rfl (World.shaped_of_RefB (by kernel_rfl) (by kernel_rfl)) (by kernel_rfl) (by kernel_rfl) (by kernel_rfl) (door_met os _)) ?_
  intro W base args ds gs before hval0 hW _ _ hL _
  have hval : ∀ (j : Nat) t v, Tryz.f3.params[j]? = some t → args[j]? = some v → Value.okWide Tryz.prog W .any base t v := hval0
  have hW' := hW
  obtain ⟨p, q, hA0, hV, rfl, hfz, hnd⟩ := hW
  have hA : DataW.TrodAll enc Tryz.prog W 0 (fun _ => true) true Tryz.f3.params.toList args.toList ds p := hA0
  rw [Tryz.params3] at hA hval
  obtain ⟨v0, vs0, d0, ds0, p0, q0, hargs, rfl, rfl, h0, r0⟩ := trodAll_cons hA
  obtain ⟨rfl, rfl, rfl⟩ := trodAll_nil r0
  obtain rfl : args = #[v0] := by cases args; simp_all
  obtain ⟨rfl, rfl⟩ := trodVars_none hV
  obtain ⟨cs0, rfl, _⟩ := okWide_struct Tryz.underlying25 (hval 0 25 v0 rfl rfl)
  have k0 := h0
  have lt0 : ∀ x ∈ p0, x.block < W.heap.size := by obtain ⟨m, hm⟩ := k0; exact DataW.trod_lt m _ _ _ hm
  obtain ⟨ts, F, va, vb, hcs, h2, h3, h4, h5, h6, h7⟩ : ∃ (ts : List AR) (F : SF) (va vb : Value), cs0 = #[va, vb] ∧ (∀ t ∈ ts, t.s.size ≤ 9223372036854775807) ∧ ts.length ≤ 9223372036854775807 ∧ sok F ∧ slen F ≤ 9223372036854775807 ∧ AV W 0 va ts ∧ SV W 0 F vb := by
    obtain ⟨fuel, hf⟩ := h0
    obtain ⟨ts, F, va, vb, e, h2, h3, h4, h5, h6, h7⟩ := open_prog hf
    have e2 : cs0.toList = [va, vb] := by simpa [Value.cells] using e
    exact ⟨ts, F, va, vb, by rw [← e2], h2, h3, h4, h5, h6, h7⟩
  subst hcs
  have hE : TabT W := by
    have hL' := hL
    rw [MakeChecks.laidMetH_plain _ _ _ (by kernel_rfl)] at hL'
    exact tab_of (laidMet.tail (laidMet.tail hL'))
  clear hA0 hval0
  refine (walk ts F h2 h3 h4 h5 va vb W h6 h7 hE).mono fun e W' ⟨he, bel⟩ => ?_
  subst he
  exact ⟨_, rfl, _, _, _, [], _, [], hW', trodAll_mk1 (shut_bool Tryz.underlying4 _), (trodAll_cons_mk (Below.trod laidOut (by kernel_rfl) (of_decide_eq_true (by kernel_rfl)) k0 bel lt0) trodAll_mk0), rfl, bel.frame _, fun h => by cases h⟩

theorem over : Rows.FnExactProgTextSaid :=
  OpenClaim.holds_of_wide 3 Tryz.f3 rfl rfl rfl rfl rfl rfl rfl ⟨rfl, rfl, rfl, rfl, rfl⟩ rfl rfl rfl rfl rfl (by kernel_rfl) Tryz.func3 (by kernel_rfl)
    (of_decide_eq_true (by kernel_rfl)) (by unfold Func.isWrapper; first | (rw [if_pos (by decide +kernel)]; kernel_rfl) | (rw [if_neg (by decide +kernel)]; exact ⟨rfl, rfl⟩))
    (fun os started H enc _ => lifted os started H enc)

theorem card : Rows.FnExactProgTextCardSaid :=
  Claim7.holds_tied_plain_at .later [] [.data, .data, .data] true (true, "e90e8895e1733bdebbcaa54f8bd6bd4de3e23f0e149a48128b8db89b8cb69390") true
    over (fun _ h => by cases h) (by kernel_rfl) (fun _ h => by cases h) fnExactProgText_row_tie rfl ⟨rfl, rfl⟩ (by kernel_rfl) rfl
    (fun f fn hf hfn => by
      obtain rfl : f = 3 := Option.some.inj ((show Tryz.prog.funcNamed Rows.fnExactProgTextRow.func = some 3 by kernel_rfl).symm.trans hf) |>.symm
      obtain rfl : fn = Tryz.f3 := (Option.some.inj (Tryz.func3.symm.trans hfn)).symm
      exact ⟨by kernel_rfl, fun j t ht => by
        rw [Tryz.params3] at ht
        have hm : t ∈ [ 25 ] := by simpa using Array.mem_of_getElem? ht
        have hall : ([ 25 ].all fun u => !Tryz.prog.wantsStandIn u) = true := by kernel_rfl
        exact (show Tryz.prog.wantsStandIn t = false by simpa using List.all_eq_true.1 hall t hm)⟩)
    (by kernel_rfl)
end Go.Proofs.YtkhccpjkajhnpabGreatDoor.fnExactProgText
namespace Go.Proofs.YtkhccpjkajhnpabGreatDoor
/-- THE STATEMENT -/
theorem fnExactProgText_holds : Rows.FnExactProgTextCardSaid := fnExactProgText.card
#print axioms fnExactProgText_holds
end Go.Proofs.YtkhccpjkajhnpabGreatDoor
