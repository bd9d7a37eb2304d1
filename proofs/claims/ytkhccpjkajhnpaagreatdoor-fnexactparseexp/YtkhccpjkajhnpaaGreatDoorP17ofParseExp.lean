/-
  Texts in one: ParExpS, ParCatch.
-/
import Derived.Test.YtkhccpjkajhnpaaGreatDoorP13ofParseExp
import Derived.Test.YtkhccpjkajhnpaaGreatDoorP14ofParseExp
import Derived.Test.YtkhccpjkajhnpaaGreatDoorP16ofParseExp
import Derived.Defers
import Derived.Recover
/-
  What a text is, read as an expression; the specification's ParseExp.
-/
namespace Go.Proofs.YtkhccpjkajhnpaaGreatDoor
open Go.RowKit Go.Lib
set_option linter.unusedSimpArgs false
set_option linter.unusedVariables false

def zeroX : X := ⟨⟨0, 0, ⟨#[]⟩⟩, .nil⟩
/-- The whole of the signs as one expression. -/
def wholeX (ts : List T) : Option X := match sumP 30 ts with
  | some (x, []) => if expOk x = true then some x else none
  | _ => none
def readX (l : List UInt8) : Option X := (lex l).bind wholeX
def ExpOut (B : Nat) (w' : World) (o : Option X) (e : Ending) : Prop :=
  ∃ u, e = .returned (.tuple #[.agg (xcells (o.getD zeroX) u).toArray, .bool o.isSome]) ∧ EV w' B (o.getD zeroX).l u
theorem kept_len5 {p : List UInt8} (h : p ∈ keptL) : p.length ≤ 6 := by
  simp only [keptL, List.mem_cons, List.not_mem_nil, or_false] at h
  rcases h with rfl | rfl | rfl | rfl | rfl | rfl <;> decide
theorem good_len5 {t : T} (h : Good t) : t.s.length ≤ 6 := by
  obtain ⟨k, p, hk, _, _, hg, ht⟩ := h
  unfold tok at ht
  split at ht
  · split at ht
    · rename_i hm; injection ht with ht; subst ht; exact kept_len5 hm
    · split at ht
      · rename_i h6; injection ht with ht; subst ht; exact h6
      · cases ht
  · split at ht
    · split at ht
      · split at ht
        · injection ht with ht; subst ht; simp
        · cases ht
      · cases ht
    · split at ht
      · rename_i h3; injection ht with ht; subst ht
        subst h3
        rcases hg with hg | hg
        · cases hg
        · show p.length ≤ 6; omega
      · cases ht
theorem Row.rowB {w : World} {v : Value} {ts : List T} (h : Row w v ts) (c : Obj) : RowB w.heap.size (w.alloc c) v ts := by
  obtain ⟨ao, cap, e, h⟩ := h
  refine ⟨ao, cap, e, ?_⟩
  have hb := (Below.refl _ w).alloc (Nat.le_refl _) c
  rcases h with h | ⟨g, e2, hg, hc⟩
  · exact .inl h
  · exact .inr ⟨g, e2, hg, fun i t hi => ⟨(hb.cell (p := ⟨g, i * 3, Option.none⟩) hg).trans (hc i t hi).1, (hb.cell (p := ⟨g, i * 3 + 1, Option.none⟩) hg).trans (hc i t hi).2.1, (hb.cell (p := ⟨g, i * 3 + 2, Option.none⟩) hg).trans (hc i t hi).2.2⟩⟩
theorem Rd5.new {w : World} {v : Value} {ts : List T} {bad : Bool} {t : TypeId} (h : Row w v ts) (hts : ts.length ≤ 600) : Rd5 w.heap.size v ts 0 0 bad (w.alloc (.cells #[v, .int .i64 0, .int .i64 0, .bool bad] t)) :=
  ⟨new_range w #[v, .int .i64 0, .int .i64 0, .bool bad] t, blk_there (arr := #[v, .int .i64 0, .int .i64 0, .bool bad]) (t := t) (by show (w.heap.push _)[w.heap.size]? = _; simp) (Nat.le_refl 4), h.rowB _, Nat.zero_le _, hts⟩
theorem whole_bad {o : Option (List T)} {x : X} {p : Nat} {bad : Bool} (hr : StE5 (o.getD []) (resB (!o.isSome) (sumP 30) ((o.getD []).drop 0)) x p bad) (hb : bad = true) : o.bind wholeX = none := by
  cases o with
  | none => rfl
  | some ts =>
    have hr : StE5 ts (sumP 30 ts) x p bad := hr
    show wholeX ts = none
    unfold wholeX
    cases h : sumP 30 ts with
    | none => rfl
    | some y => obtain ⟨y, l⟩ := y; rw [h] at hr; obtain ⟨e, _, _⟩ := hr; rw [hb] at e; cases e
theorem whole_some {o : Option (List T)} {x : X} {p : Nat} (hr : StE5 (o.getD []) (resB (!o.isSome) (sumP 30) ((o.getD []).drop 0)) x p false) : ∃ ts, o = some ts ∧ sumP 30 ts = some (x, ts.drop p) := by
  cases o with
  | none => cases (show false = true from hr)
  | some ts =>
    have hr : StE5 ts (sumP 30 ts) x p false := hr
    cases h : sumP 30 ts with
    | none => rw [h] at hr; cases (show false = true from hr)
    | some y => obtain ⟨y, l⟩ := y; rw [h] at hr; obtain ⟨_, rfl, rfl⟩ := hr; exact ⟨ts, rfl, h⟩
theorem whole_is {ts : List T} {x : X} {p : Nat} (h : sumP 30 ts = some (x, ts.drop p)) (hp : p ≤ ts.length) : wholeX ts = if p = ts.length ∧ expOk x = true then some x else none := by
  unfold wholeX
  rw [h]
  by_cases e : p = ts.length
  · rw [List.drop_of_length_le (by omega)]
    by_cases k : expOk x = true
    · simp [e, k]
    · simp [k]
  · rw [if_neg (fun c => e c.1)]
    have : ts.drop p ≠ [] := fun c => by have := congrArg List.length c; rw [List.length_drop, List.length_nil] at this; omega
    split
    · rename_i c; injection c with c; injection c with _ c; exact absurd c this
    · rfl
set_option maxHeartbeats 4000000 in
set_option maxRecDepth 100000 in
theorem spec_ParseExp (s : ByteArray) (o : Option X) (ho : readX s.data.toList = o) (w : World) :
    Calls Tryz.prog 13 #[.string s] w fun e w' => ExpOut w.heap.size w' o e ∧ Below w.heap.size w w' := by
  obtain ⟨ol, Hol⟩ : ∃ ol, Hid (lex s.data.toList = ol) := ⟨_, rfl⟩
  have HO : Hid (ol.bind wholeX = o) := Lib.hid (by rw [← Hol.out]; exact ho)
  have b0 := alloc_below w (.cells zero4 33)
  have B0 := Lib.hid b0
  have T0 := Lib.hid (newthere4 w 33)
  have CL := Lib.hid (spec_Lex s ol Hol.out (w.alloc (.cells zero4 33)))
  have hz0 : (w.alloc (.cells zero4 33)).heap.size = w.heap.size + 1 := World.size_alloc _ _
  have HZ0 := Lib.hid hz0
  have HG : Hid ((∀ t ∈ ol.getD [], Good t) ∧ (ol.getD []).length ≤ 600) := Lib.hid (by
    cases ol with
    | none => exact ⟨fun t h => (by cases h), Nat.zero_le _⟩
    | some ts => exact lex_good Hol.out)
  clear ho b0 hz0
  go_enter Tryz.func13, Tryz.ntmps13
  go_wp2_with fail
  refine CL.out.mono ?_
  rintro e w1 ⟨⟨v, rfl, hown⟩, hb1⟩
  have RW := Lib.hid (Row.of hown)
  have B1 := Lib.hid (B0.out.trans (hb1.mono B0.out.size))
  have HS1 : Hid (w.heap.size + 1 ≤ w1.heap.size) := Lib.hid (by rw [← HZ0.out]; exact hb1.size)
  have T1 := Lib.hid (there_later T0.out hb1)
  have OV : v.oneCell' = true := by obtain ⟨_, _, e, _⟩ := RW.out; rw [e]; rfl
  clear hown hb1 CL B0 T0 HZ0
  obtain ⟨ts, hts⟩ : ∃ ts, ol.getD [] = ts := ⟨_, rfl⟩
  obtain ⟨bad, hbad⟩ : ∃ b, (!ol.isSome) = b := ⟨_, rfl⟩
  have HTS := Lib.hid hts
  have HBD := Lib.hid hbad
  have hsome : ol.isSome = !bad := by rw [← hbad, Bool.not_not]
  rw [hsome]
  rw [hts] at RW HG
  obtain ⟨ao, cap, hv, _⟩ := RW.out
  subst hv
  have S1 : Hid (Rd5 w1.heap.size (.slice ao ts.length cap) ts 0 0 bad (w1.alloc (.cells #[.slice ao ts.length cap, .int .i64 0, .int .i64 0, .bool bad] 63))) := Lib.hid (Rd5.new RW.out HG.out.2)
  have b2 := alloc_below w1 (.cells #[.slice ao ts.length cap, .int .i64 0, .int .i64 0, .bool bad] 63)
  have T2 := Lib.hid (there_later T1.out b2)
  have B2 := Lib.hid (B1.out.trans (b2.mono B1.out.size))
  have CS := Lib.hid (l5Sum_all w1.heap.size (.slice ao ts.length cap) ts HG.out.1 30 (Nat.le_refl _) 0 (by decide) 0 bad _ S1.out)
  clear hts hbad hsome b2 T1 B1
  go_wp2_with fail
  refine CS.out.mono ?_
  rintro e n2 ⟨x2, u2, p2, b2, rfl, g2⟩
  have o2 := oneX x2 u2 g2.ev.isOne
  have K2 := Lib.hid g2
  clear g2
  go_wp2_with (refine store_abs rfl 33 _ _ rfl n2.heap.size 0 (xcells x2 u2).toArray rfl rfl (newthere4 n2 _) sizeIE2 o2 ?_; intro W hW; have HW2 := Lib.hid (newblk4 x2 u2 hW); clear hW)
  obtain ⟨w2, hw2⟩ : ∃ z, W = z := ⟨_, rfl⟩
  rw [hw2] at HW2 ⊢
  clear hw2 W
  have hbn : w1.heap.size < n2.heap.size := K2.out.rd.lt
  obtain ⟨n, hn⟩ : ∃ z, n2.heap.size = z := ⟨_, rfl⟩
  obtain ⟨b, hb⟩ : ∃ z, w1.heap.size = z := ⟨_, rfl⟩
  have S2 := Lib.hid (K2.out.rd.later HW2.out.2)
  have R2 := Lib.hid HW2.out.1
  have E2 : Hid (EV w2 0 x2.l u2) := Lib.hid ((K2.out.ev.later HW2.out.2).lower (Nat.zero_le _))
  have EN : Hid (EV w2 (w.heap.size + 1) x2.l u2) := Lib.hid ((K2.out.ev.later HW2.out.2).lower (by rw [World.size_alloc]; have := HS1.out; omega))
  have BW : Hid (Below w.heap.size w w2) := Lib.hid ((B2.out.trans (K2.out.wr.below (B := w.heap.size) (by have := HS1.out; omega) (by rw [World.size_alloc]; omega))).trans (HW2.out.2.mono (by have := HS1.out; omega)))
  have T2' := Lib.hid (there_later (there_wr T2.out K2.out.wr (by have := HS1.out; omega)) HW2.out.2)
  have RL : Hid (StE5 (ol.getD []) (resB (!ol.isSome) (sumP 30) ((ol.getD []).drop 0)) x2 p2 b2) := Lib.hid (by rw [HTS.out, HBD.out]; exact K2.out.rel)
  have HP : Hid (p2 ≤ ts.length) := Lib.hid K2.out.rd.hp
  have HG1 := Lib.hid HG.out.1
  have HTL := Lib.hid HG.out.2
  clear T2 K2 HW2 S1 CS B2 HG
  have T2 := T2'
  clear T2'
  rw [hn] at R2 hbn ⊢
  rw [hb] at S2 hbn ⊢
  clear hn hb
  have bd : Below w2.heap.size w2 w2.drew := (Below.refl _ w2).drew
  cases b2 with
  | true =>
    have HN : Hid (o = none) := Lib.hid (by rw [← HO.out]; exact whole_bad RL.out rfl)
    go_wp2_with fail
    refine wp_region_held_drew (S := Below w2.heap.size w2) (by kernel_rfl) bd (fun hHeld => ?_)
    refine wpAnyH_take (i := 0) (v := .pointer (some ⟨b, 0, Option.none⟩)) rfl (by kernel_rfl) (by kernel_rfl) (by kernel_rfl) (fun _ _ _ h => h) (Or.inl ⟨by rfl, ?ya0⟩) hHeld ?_
    case ya0 => intro w hSw; go_simp
    simp only [Act.put, List.getElem_toArray, List.getElem_cons_succ, List.getElem_cons_zero, List.setIfInBounds_toArray, List.set_cons_zero, List.set_cons_succ]
    refine wpAnyH_take (i := 1) (v := .pointer (some ⟨b, 0, Option.none⟩)) rfl (by kernel_rfl) (by kernel_rfl) (by kernel_rfl) (fun _ _ _ h => h) (Or.inl ⟨by rfl, ?ya1⟩) hHeld ?_
    case ya1 => intro w hSw; go_simp
    simp only [Act.put, List.getElem_toArray, List.getElem_cons_succ, List.getElem_cons_zero, List.setIfInBounds_toArray, List.set_cons_zero, List.set_cons_succ]
    refine wpAnyH_take (i := 2) (v := .pointer (some ⟨b, 3, Option.none⟩)) rfl (by kernel_rfl) (by kernel_rfl) (by kernel_rfl) (fun _ _ _ h => h) (Or.inl ⟨by rfl, ?ya2⟩) hHeld ?_
    case ya2 => intro w hSw; go_simp
    simp only [Act.put, List.getElem_toArray, List.getElem_cons_succ, List.getElem_cons_zero, List.setIfInBounds_toArray, List.set_cons_zero, List.set_cons_succ]
    refine wpAnyH_take (i := 3) (v := .bool true) rfl (by kernel_rfl) (by kernel_rfl) (by kernel_rfl) (fun _ _ _ h => h) (Or.inl ⟨by rfl, ?ya3⟩) hHeld ?_
    case ya3 => intro w hSw; have q := (S2.out.later hSw).cells; have q0 := q.1; have q1 := q.2.1; have q2 := q.2.2.1; have q3 := q.2.2.2; go_simp
    simp only [Act.put, List.getElem_toArray, List.getElem_cons_succ, List.getElem_cons_zero, List.setIfInBounds_toArray, List.set_cons_zero, List.set_cons_succ]
    refine wpAnyH_take (i := 4) (v := .bool true) rfl (by kernel_rfl) (by kernel_rfl) (by kernel_rfl) (fun _ _ _ h => h) (Or.inl ⟨by rfl, ?ya4⟩) hHeld ?_
    case ya4 => intro w hSw; go_simp
    simp only [Act.put, List.getElem_toArray, List.getElem_cons_succ, List.getElem_cons_zero, List.setIfInBounds_toArray, List.set_cons_zero, List.set_cons_succ]
    refine wpAnyH_take (i := 5) (v := undef) rfl (by kernel_rfl) (by kernel_rfl) (by kernel_rfl) (fun _ _ _ h => h) (Or.inr ⟨by rfl, rfl⟩) hHeld ?_
    simp only [Act.put, List.getElem_toArray, List.getElem_cons_succ, List.getElem_cons_zero, List.setIfInBounds_toArray, List.set_cons_zero, List.set_cons_succ]
    refine wpAnyH_take (i := 6) (v := undef) rfl (by kernel_rfl) (by kernel_rfl) (by kernel_rfl) (fun _ _ _ h => h) (Or.inr ⟨by rfl, rfl⟩) hHeld ?_
    simp only [Act.put, List.getElem_toArray, List.getElem_cons_succ, List.getElem_cons_zero, List.setIfInBounds_toArray, List.set_cons_zero, List.set_cons_succ]
    refine wpAnyH_take (i := 7) (v := undef) rfl (by kernel_rfl) (by kernel_rfl) (by kernel_rfl) (fun _ _ _ h => h) (Or.inr ⟨by rfl, rfl⟩) hHeld ?_
    simp only [Act.put, List.getElem_toArray, List.getElem_cons_succ, List.getElem_cons_zero, List.setIfInBounds_toArray, List.set_cons_zero, List.set_cons_succ]
    refine wpAnyH_take (i := 8) (v := undef) rfl (by kernel_rfl) (by kernel_rfl) (by kernel_rfl) (fun _ _ _ h => h) (Or.inr ⟨by rfl, rfl⟩) hHeld ?_
    simp only [Act.put, List.getElem_toArray, List.getElem_cons_succ, List.getElem_cons_zero, List.setIfInBounds_toArray, List.set_cons_zero, List.set_cons_succ]
    refine wpAnyH_take (i := 9) (v := undef) rfl (by kernel_rfl) (by kernel_rfl) (by kernel_rfl) (fun _ _ _ h => h) (Or.inr ⟨by rfl, rfl⟩) hHeld ?_
    simp only [Act.put, List.getElem_toArray, List.getElem_cons_succ, List.getElem_cons_zero, List.setIfInBounds_toArray, List.set_cons_zero, List.set_cons_succ]
    refine wpAnyH_take (i := 10) (v := undef) rfl (by kernel_rfl) (by kernel_rfl) (by kernel_rfl) (fun _ _ _ h => h) (Or.inr ⟨by rfl, rfl⟩) hHeld ?_
    simp only [Act.put, List.getElem_toArray, List.getElem_cons_succ, List.getElem_cons_zero, List.setIfInBounds_toArray, List.set_cons_zero, List.set_cons_succ]
    refine wpAnyH_take (i := 11) (v := undef) rfl (by kernel_rfl) (by kernel_rfl) (by kernel_rfl) (fun _ _ _ h => h) (Or.inr ⟨by rfl, rfl⟩) hHeld ?_
    simp only [Act.put, List.getElem_toArray, List.getElem_cons_succ, List.getElem_cons_zero, List.setIfInBounds_toArray, List.set_cons_zero, List.set_cons_succ]
    refine wpAnyH_take (i := 12) (v := undef) rfl (by kernel_rfl) (by kernel_rfl) (by kernel_rfl) (fun _ _ _ h => h) (Or.inr ⟨by rfl, rfl⟩) hHeld ?_
    simp only [Act.put, List.getElem_toArray, List.getElem_cons_succ, List.getElem_cons_zero, List.setIfInBounds_toArray, List.set_cons_zero, List.set_cons_succ]
    refine wpAnyH_take (i := 13) (v := undef) rfl (by kernel_rfl) (by kernel_rfl) (by kernel_rfl) (fun _ _ _ h => h) (Or.inr ⟨by rfl, rfl⟩) hHeld ?_
    simp only [Act.put, List.getElem_toArray, List.getElem_cons_succ, List.getElem_cons_zero, List.setIfInBounds_toArray, List.set_cons_zero, List.set_cons_succ]
    refine wpAnyH_take (i := 14) (v := undef) rfl (by kernel_rfl) (by kernel_rfl) (by kernel_rfl) (fun _ _ _ h => h) (Or.inr ⟨by rfl, rfl⟩) hHeld ?_
    simp only [Act.put, List.getElem_toArray, List.getElem_cons_succ, List.getElem_cons_zero, List.setIfInBounds_toArray, List.set_cons_zero, List.set_cons_succ]
    refine wpAnyH_take (i := 15) (v := .bool true) rfl (by kernel_rfl) (by kernel_rfl) (by kernel_rfl) (fun _ _ _ h => h) (Or.inl ⟨by rfl, ?ya15⟩) hHeld ?_
    case ya15 => intro w hSw; go_simp
    simp only [Act.put, List.getElem_toArray, List.getElem_cons_succ, List.getElem_cons_zero, List.setIfInBounds_toArray, List.set_cons_zero, List.set_cons_succ]
    refine wpAnyH_take (i := 16) (v := .bool true) rfl (by kernel_rfl) (by kernel_rfl) (by kernel_rfl) (fun _ _ _ h => h) (Or.inl ⟨by rfl, ?ya16⟩) hHeld ?_
    case ya16 => intro w hSw; go_simp
    simp only [Act.put, List.getElem_toArray, List.getElem_cons_succ, List.getElem_cons_zero, List.setIfInBounds_toArray, List.set_cons_zero, List.set_cons_succ]
    refine wpAnyH_take (i := 17) (v := undef) rfl (by kernel_rfl) (by kernel_rfl) (by kernel_rfl) (fun _ _ _ h => h) (Or.inr ⟨by rfl, rfl⟩) hHeld ?_
    simp only [Act.put, List.getElem_toArray, List.getElem_cons_succ, List.getElem_cons_zero, List.setIfInBounds_toArray, List.set_cons_zero, List.set_cons_succ]
    refine wpAnyH_take (i := 18) (v := undef) rfl (by kernel_rfl) (by kernel_rfl) (by kernel_rfl) (fun _ _ _ h => h) (Or.inr ⟨by rfl, rfl⟩) hHeld ?_
    simp only [Act.put, List.getElem_toArray, List.getElem_cons_succ, List.getElem_cons_zero, List.setIfInBounds_toArray, List.set_cons_zero, List.set_cons_succ]
    refine wpAnyH_take (i := 19) (v := undef) rfl (by kernel_rfl) (by kernel_rfl) (by kernel_rfl) (fun _ _ _ h => h) (Or.inr ⟨by rfl, rfl⟩) hHeld ?_
    simp only [Act.put, List.getElem_toArray, List.getElem_cons_succ, List.getElem_cons_zero, List.setIfInBounds_toArray, List.set_cons_zero, List.set_cons_succ]
    refine wpAnyH_take (i := 20) (v := .bool true) rfl (by kernel_rfl) (by kernel_rfl) (by kernel_rfl) (fun _ _ _ h => h) (Or.inl ⟨by rfl, ?ya20⟩) hHeld ?_
    case ya20 => intro w hSw; go_simp
    simp only [Act.put, List.getElem_toArray, List.getElem_cons_succ, List.getElem_cons_zero, List.setIfInBounds_toArray, List.set_cons_zero, List.set_cons_succ]
    refine wpAnyH_done (by kernel_rfl) ?_ _
    have B3 := Lib.hid hHeld
    clear hHeld bd
    have th3 := Lib.hid (there_later T2.out B3.out)
    go_wp2_with (first | (refine store_abs rfl 33 _ _ rfl w.heap.size 0 (xcells zeroX (.slice Option.none 0 0)).toArray rfl rfl th3.out sizeIE2 (oneX zeroX _ rfl) ?_; intro W hW))
    have HW := And.intro (show W.rangeAt w.heap.size 0 (xcells zeroX (.slice Option.none 0 0)) by rw [← hW]; exact World.rangeAt_setCells_same _ _ _ _ th3.out) (show Below w.heap.size w W by rw [← hW]; exact below_sets _ _ (BW.out.trans (B3.out.mono BW.out.size)) (Nat.le_refl _))
    have hlv := run_loadVar_mid W w.heap.size 0 _ _ _ HW.1 Tryz.underlying33 rfl sizeIE2
    refine bodyPost_ret (v := .tuple #[.agg (xcells zeroX (.slice Option.none 0 0)).toArray, .bool false]) ?_ rfl ⟨⟨.slice Option.none 0 0, by rw [HN.out]; rfl, by rw [HN.out]; exact EV.nil _ _ _ _⟩, HW.2⟩
    simp [results, Tryz.results13, asAddr, hlv, Act.put]
    try rfl
  | false =>
    have HX : Hid (o = (if p2 = ts.length ∧ expOk x2 = true then some x2 else none) ∧ xsize x2 ≤ 1048576) := Lib.hid (by
      obtain ⟨l, e, h⟩ := whole_some RL.out
      have el : l = ts := by rw [← HTS.out, e]; rfl
      rw [el] at h
      have hu := sum_ok 30 ts x2 _ (fun t ht => good_len5 (HG1.out t ht)) h
      refine ⟨?_, by have := hu.2.2; have := HTL.out; omega⟩
      rw [← HO.out, e, el]
      exact whole_is h HP.out)
    have HSZ := Lib.hid HX.out.2
    by_cases hp : p2 = ts.length
    · have hpe : ((p2 : Int) == (ts.length : Int)) = true := by simp [hp]
      have hpI : (p2 : Int) = (ts.length : Int) := by omega
      obtain ⟨k, HOK⟩ : ∃ k, Hid (expOk x2 = k) := ⟨_, rfl⟩
      cases k with
      | true =>
        have HN : Hid (o = some x2) := Lib.hid (by rw [HX.out.1, if_pos ⟨hp, HOK.out⟩])
        clear hp
        go_wp2_with fail
        refine wp_region_held_drew (S := Below w2.heap.size w2) (by kernel_rfl) bd (fun hHeld => ?_)
        refine wpAnyH_take (i := 0) (v := .pointer (some ⟨b, 0, Option.none⟩)) rfl (by kernel_rfl) (by kernel_rfl) (by kernel_rfl) (fun _ _ _ h => h) (Or.inl ⟨by rfl, ?yb0⟩) hHeld ?_
        case yb0 => intro w hSw; go_simp
        simp only [Act.put, List.getElem_toArray, List.getElem_cons_succ, List.getElem_cons_zero, List.setIfInBounds_toArray, List.set_cons_zero, List.set_cons_succ]
        refine wpAnyH_take (i := 1) (v := .pointer (some ⟨b, 0, Option.none⟩)) rfl (by kernel_rfl) (by kernel_rfl) (by kernel_rfl) (fun _ _ _ h => h) (Or.inl ⟨by rfl, ?yb1⟩) hHeld ?_
        case yb1 => intro w hSw; go_simp
        simp only [Act.put, List.getElem_toArray, List.getElem_cons_succ, List.getElem_cons_zero, List.setIfInBounds_toArray, List.set_cons_zero, List.set_cons_succ]
        refine wpAnyH_take (i := 2) (v := .pointer (some ⟨b, 3, Option.none⟩)) rfl (by kernel_rfl) (by kernel_rfl) (by kernel_rfl) (fun _ _ _ h => h) (Or.inl ⟨by rfl, ?yb2⟩) hHeld ?_
        case yb2 => intro w hSw; go_simp
        simp only [Act.put, List.getElem_toArray, List.getElem_cons_succ, List.getElem_cons_zero, List.setIfInBounds_toArray, List.set_cons_zero, List.set_cons_succ]
        refine wpAnyH_take (i := 3) (v := .bool false) rfl (by kernel_rfl) (by kernel_rfl) (by kernel_rfl) (fun _ _ _ h => h) (Or.inl ⟨by rfl, ?yb3⟩) hHeld ?_
        case yb3 => intro w hSw; have q := (S2.out.later hSw).cells; have q0 := q.1; have q1 := q.2.1; have q2 := q.2.2.1; have q3 := q.2.2.2; go_simp
        simp only [Act.put, List.getElem_toArray, List.getElem_cons_succ, List.getElem_cons_zero, List.setIfInBounds_toArray, List.set_cons_zero, List.set_cons_succ]
        refine wpAnyH_take (i := 4) (v := .bool false) rfl (by kernel_rfl) (by kernel_rfl) (by kernel_rfl) (fun _ _ _ h => h) (Or.inl ⟨by rfl, ?yb4⟩) hHeld ?_
        case yb4 => intro w hSw; go_simp
        simp only [Act.put, List.getElem_toArray, List.getElem_cons_succ, List.getElem_cons_zero, List.setIfInBounds_toArray, List.set_cons_zero, List.set_cons_succ]
        refine wpAnyH_take (i := 5) (v := .pointer (some ⟨b, 0, Option.none⟩)) rfl (by kernel_rfl) (by kernel_rfl) (by kernel_rfl) (fun _ _ _ h => h) (Or.inl ⟨by rfl, ?yb5⟩) hHeld ?_
        case yb5 => intro w hSw; go_simp
        simp only [Act.put, List.getElem_toArray, List.getElem_cons_succ, List.getElem_cons_zero, List.setIfInBounds_toArray, List.set_cons_zero, List.set_cons_succ]
        refine wpAnyH_take (i := 6) (v := .pointer (some ⟨b, 0, Option.none⟩)) rfl (by kernel_rfl) (by kernel_rfl) (by kernel_rfl) (fun _ _ _ h => h) (Or.inl ⟨by rfl, ?yb6⟩) hHeld ?_
        case yb6 => intro w hSw; go_simp
        simp only [Act.put, List.getElem_toArray, List.getElem_cons_succ, List.getElem_cons_zero, List.setIfInBounds_toArray, List.set_cons_zero, List.set_cons_succ]
        refine wpAnyH_take (i := 7) (v := .pointer (some ⟨b, 1, Option.none⟩)) rfl (by kernel_rfl) (by kernel_rfl) (by kernel_rfl) (fun _ _ _ h => h) (Or.inl ⟨by rfl, ?yb7⟩) hHeld ?_
        case yb7 => intro w hSw; go_simp
        simp only [Act.put, List.getElem_toArray, List.getElem_cons_succ, List.getElem_cons_zero, List.setIfInBounds_toArray, List.set_cons_zero, List.set_cons_succ]
        refine wpAnyH_take (i := 8) (v := .int .i64 (p2 : Int)) rfl (by kernel_rfl) (by kernel_rfl) (by kernel_rfl) (fun _ _ _ h => h) (Or.inl ⟨by rfl, ?yb8⟩) hHeld ?_
        case yb8 => intro w hSw; have q := (S2.out.later hSw).cells; have q0 := q.1; have q1 := q.2.1; have q2 := q.2.2.1; have q3 := q.2.2.2; go_simp
        simp only [Act.put, List.getElem_toArray, List.getElem_cons_succ, List.getElem_cons_zero, List.setIfInBounds_toArray, List.set_cons_zero, List.set_cons_succ]
        refine wpAnyH_take (i := 9) (v := .pointer (some ⟨b, 0, Option.none⟩)) rfl (by kernel_rfl) (by kernel_rfl) (by kernel_rfl) (fun _ _ _ h => h) (Or.inl ⟨by rfl, ?yb9⟩) hHeld ?_
        case yb9 => intro w hSw; go_simp
        simp only [Act.put, List.getElem_toArray, List.getElem_cons_succ, List.getElem_cons_zero, List.setIfInBounds_toArray, List.set_cons_zero, List.set_cons_succ]
        refine wpAnyH_take (i := 10) (v := .pointer (some ⟨b, 0, Option.none⟩)) rfl (by kernel_rfl) (by kernel_rfl) (by kernel_rfl) (fun _ _ _ h => h) (Or.inl ⟨by rfl, ?yb10⟩) hHeld ?_
        case yb10 => intro w hSw; go_simp
        simp only [Act.put, List.getElem_toArray, List.getElem_cons_succ, List.getElem_cons_zero, List.setIfInBounds_toArray, List.set_cons_zero, List.set_cons_succ]
        refine wpAnyH_take (i := 11) (v := .pointer (some ⟨b, 0, Option.none⟩)) rfl (by kernel_rfl) (by kernel_rfl) (by kernel_rfl) (fun _ _ _ h => h) (Or.inl ⟨by rfl, ?yb11⟩) hHeld ?_
        case yb11 => intro w hSw; go_simp
        simp only [Act.put, List.getElem_toArray, List.getElem_cons_succ, List.getElem_cons_zero, List.setIfInBounds_toArray, List.set_cons_zero, List.set_cons_succ]
        refine wpAnyH_take (i := 12) (v := .slice ao ts.length cap) rfl (by kernel_rfl) (by kernel_rfl) (by kernel_rfl) (fun _ _ _ h => h) (Or.inl ⟨by rfl, ?yb12⟩) hHeld ?_
        case yb12 => intro w hSw; have q := (S2.out.later hSw).cells; have q0 := q.1; have q1 := q.2.1; have q2 := q.2.2.1; have q3 := q.2.2.2; go_simp
        simp only [Act.put, List.getElem_toArray, List.getElem_cons_succ, List.getElem_cons_zero, List.setIfInBounds_toArray, List.set_cons_zero, List.set_cons_succ]
        refine wpAnyH_take (i := 13) (v := .int .i64 (ts.length : Int)) rfl (by kernel_rfl) (by kernel_rfl) (by kernel_rfl) (fun _ _ _ h => h) (Or.inl ⟨by rfl, ?yb13⟩) hHeld ?_
        case yb13 => intro w hSw; go_simp
        simp only [Act.put, List.getElem_toArray, List.getElem_cons_succ, List.getElem_cons_zero, List.setIfInBounds_toArray, List.set_cons_zero, List.set_cons_succ]
        refine wpAnyH_take (i := 14) (v := .bool false) rfl (by kernel_rfl) (by kernel_rfl) (by kernel_rfl) (fun _ _ _ h => h) (Or.inl ⟨by rfl, ?yb14⟩) hHeld ?_
        case yb14 => intro w hSw; go_simp
        simp only [Act.put, List.getElem_toArray, List.getElem_cons_succ, List.getElem_cons_zero, List.setIfInBounds_toArray, List.set_cons_zero, List.set_cons_succ]
        refine wpAnyH_take (i := 15) (v := .bool false) rfl (by kernel_rfl) (by kernel_rfl) (by kernel_rfl) (fun _ _ _ h => h) (Or.inl ⟨by rfl, ?yb15⟩) hHeld ?_
        case yb15 => intro w hSw; go_simp
        simp only [Act.put, List.getElem_toArray, List.getElem_cons_succ, List.getElem_cons_zero, List.setIfInBounds_toArray, List.set_cons_zero, List.set_cons_succ]
        refine wpAnyH_take (i := 16) (v := .bool false) rfl (by kernel_rfl) (by kernel_rfl) (by kernel_rfl) (fun _ _ _ h => h) (Or.inl ⟨by rfl, ?yb16⟩) hHeld ?_
        case yb16 => intro w hSw; go_simp
        simp only [Act.put, List.getElem_toArray, List.getElem_cons_succ, List.getElem_cons_zero, List.setIfInBounds_toArray, List.set_cons_zero, List.set_cons_succ]
        refine wpAnyH_take (i := 17) (v := .agg (xcells x2 u2).toArray) rfl (by kernel_rfl) (by kernel_rfl) (by kernel_rfl) (fun _ _ _ h => h) (yieldsIf_load_mid (by rfl) 33 _ rfl (n) (0) rfl (xcells x2 u2) _ (fun w h => rangeAt_later R2.out h) Tryz.underlying33 rfl sizeIE2) hHeld ?_
        simp only [Act.put, List.getElem_toArray, List.getElem_cons_succ, List.getElem_cons_zero, List.setIfInBounds_toArray, List.set_cons_zero, List.set_cons_succ]
        refine wpAnyH_ready (rs := [18]) (by kernel_rfl) (by simp) ?_
        refine AllReadyH.cons rfl (fun K hK => ?_) AllReadyH.nil
        rw [if_pos (by rfl)]
        simp only [List.getElem_toArray, List.getElem_cons_succ, List.getElem_cons_zero]
        go_wp2_with fail
        refine (spec_ExpOk x2 HSZ.out _ u2 (E2.out.later (by first | exact hHeld | exact hHeld.drew))).mono ?_
        rintro e w3 ⟨rfl, hb3⟩
        rw [HOK.out]
        go_wp2_with fail
        refine hK.out _ _ (hHeld.trans (hb3.mono hHeld.size)) (fun hHeld => ?_)
        refine wpAnyH_take (i := 19) (v := .bool false) rfl (by kernel_rfl) (by kernel_rfl) (by kernel_rfl) (fun _ _ _ h => h) (Or.inl ⟨by rfl, ?yb19⟩) hHeld ?_
        case yb19 => intro w hSw; go_simp
        simp only [Act.put, List.getElem_toArray, List.getElem_cons_succ, List.getElem_cons_zero, List.setIfInBounds_toArray, List.set_cons_zero, List.set_cons_succ]
        refine wpAnyH_take (i := 20) (v := .bool false) rfl (by kernel_rfl) (by kernel_rfl) (by kernel_rfl) (fun _ _ _ h => h) (Or.inl ⟨by rfl, ?yb20⟩) hHeld ?_
        case yb20 => intro w hSw; go_simp
        simp only [Act.put, List.getElem_toArray, List.getElem_cons_succ, List.getElem_cons_zero, List.setIfInBounds_toArray, List.set_cons_zero, List.set_cons_succ]
        refine wpAnyH_done (by kernel_rfl) ?_ _
        have B3 := Lib.hid hHeld
        clear hHeld bd
        have th3 := Lib.hid (there_later T2.out B3.out)
        have r3 := Lib.hid (rangeAt_later R2.out B3.out)
        go_wp2_with (first | (refine wpList_load_mid rfl 33 _ rfl n 0 rfl _ _ r3.out Tryz.underlying33 rfl sizeIE2 ?_) | (refine store_abs rfl 33 _ _ rfl w.heap.size 0 (xcells x2 u2).toArray rfl rfl th3.out sizeIE2 o2 ?_; intro W hW))
        have HW := And.intro (show W.rangeAt w.heap.size 0 (xcells x2 u2) by rw [← hW]; exact World.rangeAt_setCells_same _ _ _ _ th3.out) (show Below w.heap.size w W by rw [← hW]; exact below_sets _ _ (BW.out.trans (B3.out.mono BW.out.size)) (Nat.le_refl _))
        have EW : EV W w.heap.size x2.l u2 := ((EN.out.later B3.out).same (lo' := w.heap.size) (by omega) (by rw [← hW]; exact Keeps.sets _ (by omega) _ _))
        have hlv := run_loadVar_mid W w.heap.size 0 _ _ _ HW.1 Tryz.underlying33 rfl sizeIE2
        refine bodyPost_ret (v := .tuple #[.agg (xcells x2 u2).toArray, .bool true]) ?_ rfl ⟨⟨u2, by rw [HN.out]; rfl, by rw [HN.out]; exact EW⟩, HW.2⟩
        simp [results, Tryz.results13, asAddr, hlv, Act.put]
        try rfl
      | false =>
        have HN : Hid (o = none) := Lib.hid (by rw [HX.out.1, if_neg (fun c => by have := c.2; rw [HOK.out] at this; cases this)])
        clear hp
        go_wp2_with fail
        refine wp_region_held_drew (S := Below w2.heap.size w2) (by kernel_rfl) bd (fun hHeld => ?_)
        refine wpAnyH_take (i := 0) (v := .pointer (some ⟨b, 0, Option.none⟩)) rfl (by kernel_rfl) (by kernel_rfl) (by kernel_rfl) (fun _ _ _ h => h) (Or.inl ⟨by rfl, ?yc0⟩) hHeld ?_
        case yc0 => intro w hSw; go_simp
        simp only [Act.put, List.getElem_toArray, List.getElem_cons_succ, List.getElem_cons_zero, List.setIfInBounds_toArray, List.set_cons_zero, List.set_cons_succ]
        refine wpAnyH_take (i := 1) (v := .pointer (some ⟨b, 0, Option.none⟩)) rfl (by kernel_rfl) (by kernel_rfl) (by kernel_rfl) (fun _ _ _ h => h) (Or.inl ⟨by rfl, ?yc1⟩) hHeld ?_
        case yc1 => intro w hSw; go_simp
        simp only [Act.put, List.getElem_toArray, List.getElem_cons_succ, List.getElem_cons_zero, List.setIfInBounds_toArray, List.set_cons_zero, List.set_cons_succ]
        refine wpAnyH_take (i := 2) (v := .pointer (some ⟨b, 3, Option.none⟩)) rfl (by kernel_rfl) (by kernel_rfl) (by kernel_rfl) (fun _ _ _ h => h) (Or.inl ⟨by rfl, ?yc2⟩) hHeld ?_
        case yc2 => intro w hSw; go_simp
        simp only [Act.put, List.getElem_toArray, List.getElem_cons_succ, List.getElem_cons_zero, List.setIfInBounds_toArray, List.set_cons_zero, List.set_cons_succ]
        refine wpAnyH_take (i := 3) (v := .bool false) rfl (by kernel_rfl) (by kernel_rfl) (by kernel_rfl) (fun _ _ _ h => h) (Or.inl ⟨by rfl, ?yc3⟩) hHeld ?_
        case yc3 => intro w hSw; have q := (S2.out.later hSw).cells; have q0 := q.1; have q1 := q.2.1; have q2 := q.2.2.1; have q3 := q.2.2.2; go_simp
        simp only [Act.put, List.getElem_toArray, List.getElem_cons_succ, List.getElem_cons_zero, List.setIfInBounds_toArray, List.set_cons_zero, List.set_cons_succ]
        refine wpAnyH_take (i := 4) (v := .bool false) rfl (by kernel_rfl) (by kernel_rfl) (by kernel_rfl) (fun _ _ _ h => h) (Or.inl ⟨by rfl, ?yc4⟩) hHeld ?_
        case yc4 => intro w hSw; go_simp
        simp only [Act.put, List.getElem_toArray, List.getElem_cons_succ, List.getElem_cons_zero, List.setIfInBounds_toArray, List.set_cons_zero, List.set_cons_succ]
        refine wpAnyH_take (i := 5) (v := .pointer (some ⟨b, 0, Option.none⟩)) rfl (by kernel_rfl) (by kernel_rfl) (by kernel_rfl) (fun _ _ _ h => h) (Or.inl ⟨by rfl, ?yc5⟩) hHeld ?_
        case yc5 => intro w hSw; go_simp
        simp only [Act.put, List.getElem_toArray, List.getElem_cons_succ, List.getElem_cons_zero, List.setIfInBounds_toArray, List.set_cons_zero, List.set_cons_succ]
        refine wpAnyH_take (i := 6) (v := .pointer (some ⟨b, 0, Option.none⟩)) rfl (by kernel_rfl) (by kernel_rfl) (by kernel_rfl) (fun _ _ _ h => h) (Or.inl ⟨by rfl, ?yc6⟩) hHeld ?_
        case yc6 => intro w hSw; go_simp
        simp only [Act.put, List.getElem_toArray, List.getElem_cons_succ, List.getElem_cons_zero, List.setIfInBounds_toArray, List.set_cons_zero, List.set_cons_succ]
        refine wpAnyH_take (i := 7) (v := .pointer (some ⟨b, 1, Option.none⟩)) rfl (by kernel_rfl) (by kernel_rfl) (by kernel_rfl) (fun _ _ _ h => h) (Or.inl ⟨by rfl, ?yc7⟩) hHeld ?_
        case yc7 => intro w hSw; go_simp
        simp only [Act.put, List.getElem_toArray, List.getElem_cons_succ, List.getElem_cons_zero, List.setIfInBounds_toArray, List.set_cons_zero, List.set_cons_succ]
        refine wpAnyH_take (i := 8) (v := .int .i64 (p2 : Int)) rfl (by kernel_rfl) (by kernel_rfl) (by kernel_rfl) (fun _ _ _ h => h) (Or.inl ⟨by rfl, ?yc8⟩) hHeld ?_
        case yc8 => intro w hSw; have q := (S2.out.later hSw).cells; have q0 := q.1; have q1 := q.2.1; have q2 := q.2.2.1; have q3 := q.2.2.2; go_simp
        simp only [Act.put, List.getElem_toArray, List.getElem_cons_succ, List.getElem_cons_zero, List.setIfInBounds_toArray, List.set_cons_zero, List.set_cons_succ]
        refine wpAnyH_take (i := 9) (v := .pointer (some ⟨b, 0, Option.none⟩)) rfl (by kernel_rfl) (by kernel_rfl) (by kernel_rfl) (fun _ _ _ h => h) (Or.inl ⟨by rfl, ?yc9⟩) hHeld ?_
        case yc9 => intro w hSw; go_simp
        simp only [Act.put, List.getElem_toArray, List.getElem_cons_succ, List.getElem_cons_zero, List.setIfInBounds_toArray, List.set_cons_zero, List.set_cons_succ]
        refine wpAnyH_take (i := 10) (v := .pointer (some ⟨b, 0, Option.none⟩)) rfl (by kernel_rfl) (by kernel_rfl) (by kernel_rfl) (fun _ _ _ h => h) (Or.inl ⟨by rfl, ?yc10⟩) hHeld ?_
        case yc10 => intro w hSw; go_simp
        simp only [Act.put, List.getElem_toArray, List.getElem_cons_succ, List.getElem_cons_zero, List.setIfInBounds_toArray, List.set_cons_zero, List.set_cons_succ]
        refine wpAnyH_take (i := 11) (v := .pointer (some ⟨b, 0, Option.none⟩)) rfl (by kernel_rfl) (by kernel_rfl) (by kernel_rfl) (fun _ _ _ h => h) (Or.inl ⟨by rfl, ?yc11⟩) hHeld ?_
        case yc11 => intro w hSw; go_simp
        simp only [Act.put, List.getElem_toArray, List.getElem_cons_succ, List.getElem_cons_zero, List.setIfInBounds_toArray, List.set_cons_zero, List.set_cons_succ]
        refine wpAnyH_take (i := 12) (v := .slice ao ts.length cap) rfl (by kernel_rfl) (by kernel_rfl) (by kernel_rfl) (fun _ _ _ h => h) (Or.inl ⟨by rfl, ?yc12⟩) hHeld ?_
        case yc12 => intro w hSw; have q := (S2.out.later hSw).cells; have q0 := q.1; have q1 := q.2.1; have q2 := q.2.2.1; have q3 := q.2.2.2; go_simp
        simp only [Act.put, List.getElem_toArray, List.getElem_cons_succ, List.getElem_cons_zero, List.setIfInBounds_toArray, List.set_cons_zero, List.set_cons_succ]
        refine wpAnyH_take (i := 13) (v := .int .i64 (ts.length : Int)) rfl (by kernel_rfl) (by kernel_rfl) (by kernel_rfl) (fun _ _ _ h => h) (Or.inl ⟨by rfl, ?yc13⟩) hHeld ?_
        case yc13 => intro w hSw; go_simp
        simp only [Act.put, List.getElem_toArray, List.getElem_cons_succ, List.getElem_cons_zero, List.setIfInBounds_toArray, List.set_cons_zero, List.set_cons_succ]
        refine wpAnyH_take (i := 14) (v := .bool false) rfl (by kernel_rfl) (by kernel_rfl) (by kernel_rfl) (fun _ _ _ h => h) (Or.inl ⟨by rfl, ?yc14⟩) hHeld ?_
        case yc14 => intro w hSw; go_simp
        simp only [Act.put, List.getElem_toArray, List.getElem_cons_succ, List.getElem_cons_zero, List.setIfInBounds_toArray, List.set_cons_zero, List.set_cons_succ]
        refine wpAnyH_take (i := 15) (v := .bool false) rfl (by kernel_rfl) (by kernel_rfl) (by kernel_rfl) (fun _ _ _ h => h) (Or.inl ⟨by rfl, ?yc15⟩) hHeld ?_
        case yc15 => intro w hSw; go_simp
        simp only [Act.put, List.getElem_toArray, List.getElem_cons_succ, List.getElem_cons_zero, List.setIfInBounds_toArray, List.set_cons_zero, List.set_cons_succ]
        refine wpAnyH_take (i := 16) (v := .bool false) rfl (by kernel_rfl) (by kernel_rfl) (by kernel_rfl) (fun _ _ _ h => h) (Or.inl ⟨by rfl, ?yc16⟩) hHeld ?_
        case yc16 => intro w hSw; go_simp
        simp only [Act.put, List.getElem_toArray, List.getElem_cons_succ, List.getElem_cons_zero, List.setIfInBounds_toArray, List.set_cons_zero, List.set_cons_succ]
        refine wpAnyH_take (i := 17) (v := .agg (xcells x2 u2).toArray) rfl (by kernel_rfl) (by kernel_rfl) (by kernel_rfl) (fun _ _ _ h => h) (yieldsIf_load_mid (by rfl) 33 _ rfl (n) (0) rfl (xcells x2 u2) _ (fun w h => rangeAt_later R2.out h) Tryz.underlying33 rfl sizeIE2) hHeld ?_
        simp only [Act.put, List.getElem_toArray, List.getElem_cons_succ, List.getElem_cons_zero, List.setIfInBounds_toArray, List.set_cons_zero, List.set_cons_succ]
        refine wpAnyH_ready (rs := [18]) (by kernel_rfl) (by simp) ?_
        refine AllReadyH.cons rfl (fun K hK => ?_) AllReadyH.nil
        rw [if_pos (by rfl)]
        simp only [List.getElem_toArray, List.getElem_cons_succ, List.getElem_cons_zero]
        go_wp2_with fail
        refine (spec_ExpOk x2 HSZ.out _ u2 (E2.out.later (by first | exact hHeld | exact hHeld.drew))).mono ?_
        rintro e w3 ⟨rfl, hb3⟩
        rw [HOK.out]
        go_wp2_with fail
        refine hK.out _ _ (hHeld.trans (hb3.mono hHeld.size)) (fun hHeld => ?_)
        refine wpAnyH_take (i := 19) (v := .bool true) rfl (by kernel_rfl) (by kernel_rfl) (by kernel_rfl) (fun _ _ _ h => h) (Or.inl ⟨by rfl, ?yc19⟩) hHeld ?_
        case yc19 => intro w hSw; go_simp
        simp only [Act.put, List.getElem_toArray, List.getElem_cons_succ, List.getElem_cons_zero, List.setIfInBounds_toArray, List.set_cons_zero, List.set_cons_succ]
        refine wpAnyH_take (i := 20) (v := .bool true) rfl (by kernel_rfl) (by kernel_rfl) (by kernel_rfl) (fun _ _ _ h => h) (Or.inl ⟨by rfl, ?yc20⟩) hHeld ?_
        case yc20 => intro w hSw; go_simp
        simp only [Act.put, List.getElem_toArray, List.getElem_cons_succ, List.getElem_cons_zero, List.setIfInBounds_toArray, List.set_cons_zero, List.set_cons_succ]
        refine wpAnyH_done (by kernel_rfl) ?_ _
        have B3 := Lib.hid hHeld
        clear hHeld bd
        have th3 := Lib.hid (there_later T2.out B3.out)
        go_wp2_with (first | (refine store_abs rfl 33 _ _ rfl w.heap.size 0 (xcells zeroX (.slice Option.none 0 0)).toArray rfl rfl th3.out sizeIE2 (oneX zeroX _ rfl) ?_; intro W hW))
        have HW := And.intro (show W.rangeAt w.heap.size 0 (xcells zeroX (.slice Option.none 0 0)) by rw [← hW]; exact World.rangeAt_setCells_same _ _ _ _ th3.out) (show Below w.heap.size w W by rw [← hW]; exact below_sets _ _ (BW.out.trans (B3.out.mono BW.out.size)) (Nat.le_refl _))
        have hlv := run_loadVar_mid W w.heap.size 0 _ _ _ HW.1 Tryz.underlying33 rfl sizeIE2
        refine bodyPost_ret (v := .tuple #[.agg (xcells zeroX (.slice Option.none 0 0)).toArray, .bool false]) ?_ rfl ⟨⟨.slice Option.none 0 0, by rw [HN.out]; rfl, by rw [HN.out]; exact EV.nil _ _ _ _⟩, HW.2⟩
        simp [results, Tryz.results13, asAddr, hlv, Act.put]
        try rfl
    · have hpe : ((p2 : Int) == (ts.length : Int)) = false := by simp; omega
      have hpI : ¬ (p2 : Int) = (ts.length : Int) := by omega
      have HN : Hid (o = none) := Lib.hid (by rw [HX.out.1, if_neg (fun c => hp c.1)])
      clear hp
      go_wp2_with fail
      refine wp_region_held_drew (S := Below w2.heap.size w2) (by kernel_rfl) bd (fun hHeld => ?_)
      refine wpAnyH_take (i := 0) (v := .pointer (some ⟨b, 0, Option.none⟩)) rfl (by kernel_rfl) (by kernel_rfl) (by kernel_rfl) (fun _ _ _ h => h) (Or.inl ⟨by rfl, ?yd0⟩) hHeld ?_
      case yd0 => intro w hSw; go_simp
      simp only [Act.put, List.getElem_toArray, List.getElem_cons_succ, List.getElem_cons_zero, List.setIfInBounds_toArray, List.set_cons_zero, List.set_cons_succ]
      refine wpAnyH_take (i := 1) (v := .pointer (some ⟨b, 0, Option.none⟩)) rfl (by kernel_rfl) (by kernel_rfl) (by kernel_rfl) (fun _ _ _ h => h) (Or.inl ⟨by rfl, ?yd1⟩) hHeld ?_
      case yd1 => intro w hSw; go_simp
      simp only [Act.put, List.getElem_toArray, List.getElem_cons_succ, List.getElem_cons_zero, List.setIfInBounds_toArray, List.set_cons_zero, List.set_cons_succ]
      refine wpAnyH_take (i := 2) (v := .pointer (some ⟨b, 3, Option.none⟩)) rfl (by kernel_rfl) (by kernel_rfl) (by kernel_rfl) (fun _ _ _ h => h) (Or.inl ⟨by rfl, ?yd2⟩) hHeld ?_
      case yd2 => intro w hSw; go_simp
      simp only [Act.put, List.getElem_toArray, List.getElem_cons_succ, List.getElem_cons_zero, List.setIfInBounds_toArray, List.set_cons_zero, List.set_cons_succ]
      refine wpAnyH_take (i := 3) (v := .bool false) rfl (by kernel_rfl) (by kernel_rfl) (by kernel_rfl) (fun _ _ _ h => h) (Or.inl ⟨by rfl, ?yd3⟩) hHeld ?_
      case yd3 => intro w hSw; have q := (S2.out.later hSw).cells; have q0 := q.1; have q1 := q.2.1; have q2 := q.2.2.1; have q3 := q.2.2.2; go_simp
      simp only [Act.put, List.getElem_toArray, List.getElem_cons_succ, List.getElem_cons_zero, List.setIfInBounds_toArray, List.set_cons_zero, List.set_cons_succ]
      refine wpAnyH_take (i := 4) (v := .bool false) rfl (by kernel_rfl) (by kernel_rfl) (by kernel_rfl) (fun _ _ _ h => h) (Or.inl ⟨by rfl, ?yd4⟩) hHeld ?_
      case yd4 => intro w hSw; go_simp
      simp only [Act.put, List.getElem_toArray, List.getElem_cons_succ, List.getElem_cons_zero, List.setIfInBounds_toArray, List.set_cons_zero, List.set_cons_succ]
      refine wpAnyH_take (i := 5) (v := .pointer (some ⟨b, 0, Option.none⟩)) rfl (by kernel_rfl) (by kernel_rfl) (by kernel_rfl) (fun _ _ _ h => h) (Or.inl ⟨by rfl, ?yd5⟩) hHeld ?_
      case yd5 => intro w hSw; go_simp
      simp only [Act.put, List.getElem_toArray, List.getElem_cons_succ, List.getElem_cons_zero, List.setIfInBounds_toArray, List.set_cons_zero, List.set_cons_succ]
      refine wpAnyH_take (i := 6) (v := .pointer (some ⟨b, 0, Option.none⟩)) rfl (by kernel_rfl) (by kernel_rfl) (by kernel_rfl) (fun _ _ _ h => h) (Or.inl ⟨by rfl, ?yd6⟩) hHeld ?_
      case yd6 => intro w hSw; go_simp
      simp only [Act.put, List.getElem_toArray, List.getElem_cons_succ, List.getElem_cons_zero, List.setIfInBounds_toArray, List.set_cons_zero, List.set_cons_succ]
      refine wpAnyH_take (i := 7) (v := .pointer (some ⟨b, 1, Option.none⟩)) rfl (by kernel_rfl) (by kernel_rfl) (by kernel_rfl) (fun _ _ _ h => h) (Or.inl ⟨by rfl, ?yd7⟩) hHeld ?_
      case yd7 => intro w hSw; go_simp
      simp only [Act.put, List.getElem_toArray, List.getElem_cons_succ, List.getElem_cons_zero, List.setIfInBounds_toArray, List.set_cons_zero, List.set_cons_succ]
      refine wpAnyH_take (i := 8) (v := .int .i64 (p2 : Int)) rfl (by kernel_rfl) (by kernel_rfl) (by kernel_rfl) (fun _ _ _ h => h) (Or.inl ⟨by rfl, ?yd8⟩) hHeld ?_
      case yd8 => intro w hSw; have q := (S2.out.later hSw).cells; have q0 := q.1; have q1 := q.2.1; have q2 := q.2.2.1; have q3 := q.2.2.2; go_simp
      simp only [Act.put, List.getElem_toArray, List.getElem_cons_succ, List.getElem_cons_zero, List.setIfInBounds_toArray, List.set_cons_zero, List.set_cons_succ]
      refine wpAnyH_take (i := 9) (v := .pointer (some ⟨b, 0, Option.none⟩)) rfl (by kernel_rfl) (by kernel_rfl) (by kernel_rfl) (fun _ _ _ h => h) (Or.inl ⟨by rfl, ?yd9⟩) hHeld ?_
      case yd9 => intro w hSw; go_simp
      simp only [Act.put, List.getElem_toArray, List.getElem_cons_succ, List.getElem_cons_zero, List.setIfInBounds_toArray, List.set_cons_zero, List.set_cons_succ]
      refine wpAnyH_take (i := 10) (v := .pointer (some ⟨b, 0, Option.none⟩)) rfl (by kernel_rfl) (by kernel_rfl) (by kernel_rfl) (fun _ _ _ h => h) (Or.inl ⟨by rfl, ?yd10⟩) hHeld ?_
      case yd10 => intro w hSw; go_simp
      simp only [Act.put, List.getElem_toArray, List.getElem_cons_succ, List.getElem_cons_zero, List.setIfInBounds_toArray, List.set_cons_zero, List.set_cons_succ]
      refine wpAnyH_take (i := 11) (v := .pointer (some ⟨b, 0, Option.none⟩)) rfl (by kernel_rfl) (by kernel_rfl) (by kernel_rfl) (fun _ _ _ h => h) (Or.inl ⟨by rfl, ?yd11⟩) hHeld ?_
      case yd11 => intro w hSw; go_simp
      simp only [Act.put, List.getElem_toArray, List.getElem_cons_succ, List.getElem_cons_zero, List.setIfInBounds_toArray, List.set_cons_zero, List.set_cons_succ]
      refine wpAnyH_take (i := 12) (v := .slice ao ts.length cap) rfl (by kernel_rfl) (by kernel_rfl) (by kernel_rfl) (fun _ _ _ h => h) (Or.inl ⟨by rfl, ?yd12⟩) hHeld ?_
      case yd12 => intro w hSw; have q := (S2.out.later hSw).cells; have q0 := q.1; have q1 := q.2.1; have q2 := q.2.2.1; have q3 := q.2.2.2; go_simp
      simp only [Act.put, List.getElem_toArray, List.getElem_cons_succ, List.getElem_cons_zero, List.setIfInBounds_toArray, List.set_cons_zero, List.set_cons_succ]
      refine wpAnyH_take (i := 13) (v := .int .i64 (ts.length : Int)) rfl (by kernel_rfl) (by kernel_rfl) (by kernel_rfl) (fun _ _ _ h => h) (Or.inl ⟨by rfl, ?yd13⟩) hHeld ?_
      case yd13 => intro w hSw; go_simp
      simp only [Act.put, List.getElem_toArray, List.getElem_cons_succ, List.getElem_cons_zero, List.setIfInBounds_toArray, List.set_cons_zero, List.set_cons_succ]
      refine wpAnyH_take (i := 14) (v := .bool true) rfl (by kernel_rfl) (by kernel_rfl) (by kernel_rfl) (fun _ _ _ h => h) (Or.inl ⟨by rfl, ?yd14⟩) hHeld ?_
      case yd14 => intro w hSw; go_simp
      simp only [Act.put, List.getElem_toArray, List.getElem_cons_succ, List.getElem_cons_zero, List.setIfInBounds_toArray, List.set_cons_zero, List.set_cons_succ]
      refine wpAnyH_take (i := 15) (v := .bool true) rfl (by kernel_rfl) (by kernel_rfl) (by kernel_rfl) (fun _ _ _ h => h) (Or.inl ⟨by rfl, ?yd15⟩) hHeld ?_
      case yd15 => intro w hSw; go_simp
      simp only [Act.put, List.getElem_toArray, List.getElem_cons_succ, List.getElem_cons_zero, List.setIfInBounds_toArray, List.set_cons_zero, List.set_cons_succ]
      refine wpAnyH_take (i := 16) (v := .bool true) rfl (by kernel_rfl) (by kernel_rfl) (by kernel_rfl) (fun _ _ _ h => h) (Or.inl ⟨by rfl, ?yd16⟩) hHeld ?_
      case yd16 => intro w hSw; go_simp
      simp only [Act.put, List.getElem_toArray, List.getElem_cons_succ, List.getElem_cons_zero, List.setIfInBounds_toArray, List.set_cons_zero, List.set_cons_succ]
      refine wpAnyH_take (i := 17) (v := undef) rfl (by kernel_rfl) (by kernel_rfl) (by kernel_rfl) (fun _ _ _ h => h) (Or.inr ⟨by rfl, rfl⟩) hHeld ?_
      simp only [Act.put, List.getElem_toArray, List.getElem_cons_succ, List.getElem_cons_zero, List.setIfInBounds_toArray, List.set_cons_zero, List.set_cons_succ]
      refine wpAnyH_take (i := 18) (v := undef) rfl (by kernel_rfl) (by kernel_rfl) (by kernel_rfl) (fun _ _ _ h => h) (Or.inr ⟨by rfl, rfl⟩) hHeld ?_
      simp only [Act.put, List.getElem_toArray, List.getElem_cons_succ, List.getElem_cons_zero, List.setIfInBounds_toArray, List.set_cons_zero, List.set_cons_succ]
      refine wpAnyH_take (i := 19) (v := undef) rfl (by kernel_rfl) (by kernel_rfl) (by kernel_rfl) (fun _ _ _ h => h) (Or.inr ⟨by rfl, rfl⟩) hHeld ?_
      simp only [Act.put, List.getElem_toArray, List.getElem_cons_succ, List.getElem_cons_zero, List.setIfInBounds_toArray, List.set_cons_zero, List.set_cons_succ]
      refine wpAnyH_take (i := 20) (v := .bool true) rfl (by kernel_rfl) (by kernel_rfl) (by kernel_rfl) (fun _ _ _ h => h) (Or.inl ⟨by rfl, ?yd20⟩) hHeld ?_
      case yd20 => intro w hSw; go_simp
      simp only [Act.put, List.getElem_toArray, List.getElem_cons_succ, List.getElem_cons_zero, List.setIfInBounds_toArray, List.set_cons_zero, List.set_cons_succ]
      refine wpAnyH_done (by kernel_rfl) ?_ _
      have B3 := Lib.hid hHeld
      clear hHeld bd
      have th3 := Lib.hid (there_later T2.out B3.out)
      go_wp2_with (first | (refine store_abs rfl 33 _ _ rfl w.heap.size 0 (xcells zeroX (.slice Option.none 0 0)).toArray rfl rfl th3.out sizeIE2 (oneX zeroX _ rfl) ?_; intro W hW))
      have HW := And.intro (show W.rangeAt w.heap.size 0 (xcells zeroX (.slice Option.none 0 0)) by rw [← hW]; exact World.rangeAt_setCells_same _ _ _ _ th3.out) (show Below w.heap.size w W by rw [← hW]; exact below_sets _ _ (BW.out.trans (B3.out.mono BW.out.size)) (Nat.le_refl _))
      have hlv := run_loadVar_mid W w.heap.size 0 _ _ _ HW.1 Tryz.underlying33 rfl sizeIE2
      refine bodyPost_ret (v := .tuple #[.agg (xcells zeroX (.slice Option.none 0 0)).toArray, .bool false]) ?_ rfl ⟨⟨.slice Option.none 0 0, by rw [HN.out]; rfl, by rw [HN.out]; exact EV.nil _ _ _ _⟩, HW.2⟩
      simp [results, Tryz.results13, asAddr, hlv, Act.put]
      try rfl
end Go.Proofs.YtkhccpjkajhnpaaGreatDoor
/-
  The landed reader: outerSum; what readAll defers.
-/
namespace Go.Proofs.YtkhccpjkajhnpaaGreatDoor
open Go.RowKit Go.Lib
set_option linter.unusedSimpArgs false
set_option linter.unusedVariables false

set_option maxHeartbeats 1000000 in
set_option maxRecDepth 100000 in
theorem outerSum_is (b : Nat) (v : Value) (ts : List T) (hG : ∀ t ∈ ts, Good t) (p : Nat) (w : World) (st : RdI b v ts p w) :
    Calls Tryz.prog 50 #[.pointer (some ⟨b, 0, none⟩)] w (PostI b v ts (sumP 30 (ts.drop p)) p w) := by
  have hbN := st.lt
  have b0 := alloc_below w (.cells zero4 33)
  have S0 := Lib.hid (st.later b0)
  have T0 := Lib.hid (newthere4 w 33)
  have W0 := Lib.hid (Wr.of_below (b := b) b0)
  have Z0 : Hid (w.heap.size + 1 ≤ (w.alloc (.cells zero4 33)).heap.size) := Lib.hid (by rw [World.size_alloc]; exact Nat.le_refl _)
  have C := Lib.hid (sum_all b v ts hG 30 (Nat.le_refl _) p _ S0.out)
  obtain ⟨res, Hres⟩ : ∃ r, Hid (sumP 30 (ts.drop p) = r) := ⟨_, rfl⟩
  rw [Hres.out] at C ⊢
  clear st b0 hG Hres
  go_enter Tryz.func50, Tryz.ntmps50
  go_wp2_with fail
  refine C.out.mono ?_
  rintro e m2 ⟨hh, ⟨x2, u2, p2, r2, rfl, l2, s2, e2⟩ | ⟨r2, rfl⟩⟩
  rotate_left
  · have HN := Lib.hid r2
    have HW := Lib.hid (W0.out.trans hh)
    clear hh r2
    go_wp2
    exact ⟨rfl, HW.out, .inr ⟨HN.out, rfl⟩⟩
  have HN := Lib.hid r2
  have S2 := Lib.hid s2
  have W2 := Lib.hid (W0.out.trans hh)
  have T2 := Lib.hid (there_wr T0.out hh (by omega))
  have V2 : Hid (EVA m2 (w.heap.size + 1) m2.heap.size x2.l u2) := Lib.hid (e2.wide Z0.out (Nat.le_refl _))
  have LL := Lib.hid l2
  clear s2 hh e2 l2 r2 C
  go_wp2_with (refine store_abs rfl 33 _ _ rfl w.heap.size 0 (xcells x2 u2).toArray rfl rfl T2.out sizeIE2 (oneX x2 u2 V2.out.isOne) ?_; intro W9 hW9)
  have HF := PostI.close (p := p) hbN T2.out V2.out (by omega) S2.out W2.out LL.out HN.out hW9
  have hlv := run_loadVar_mid W9 w.heap.size 0 _ _ _ HF.2 Tryz.underlying33 rfl sizeIE2
  refine bodyPost_ret (v := .agg (xcells x2 u2).toArray) ?_ rfl HF.1
  simp [results, Tryz.results50, asAddr, hlv, Act.put]
  try rfl
/-- What is left behind a panic that was met: nothing read. -/
structure CatchW (A A1 : Nat) (w w' : World) : Prop where
  rg : w'.rangeAt A 0 (xcells zeroX (.slice Option.none 0 0))
  ok : w'.cell? ⟨A1, 0, Option.none⟩ = some (.bool false)
  below : ∀ B, B ≤ A → B ≤ A1 → B ≤ w.heap.size → Below B w w'
set_option maxHeartbeats 1000000 in
set_option maxRecDepth 100000 in
theorem catchE_panicking (A A1 : Nat) (x : Bool) (u : TypeId) (pv : Value) (older : List PanicEntry) (w : World) (ht : w.there A 0 4) (hc : w.cell? ⟨A1, 0, Option.none⟩ = some (.bool x)) (hz : w.frozen? ⟨A1, 0, Option.none⟩ = false) (hne : A ≠ A1) (hA : A < w.heap.size) (hA1 : A1 < w.heap.size) :
    CallsD Tryz.prog 108 #[.pointer (some ⟨A, 0, none⟩), .pointer (some ⟨A1, 0, none⟩)] (.panicking ({ v := .iface u pv, recovered := false } :: older)) w fun e u' w' =>
      e = .returned (.tuple #[]) ∧ u' = .panicking ({ v := .iface u pv, recovered := true } :: older) ∧ CatchW A A1 w w' := by
  refine callsD_of_wpS Tryz.func108 rfl fun c₀ cs hu => ?_
  apply wpS_seq
  apply wpS_region
  simp [wpOpsS, go_sem, recoverD, hu, Tryz.ntmps108, Exit.thenS]
  refine wpS_cond (t := true) (by simp [Act.eval, Array.replicate]) ?_
  simp only [if_true]
  refine wpS_of_wp ?_
  rw [show (#[Value.pointer (some ⟨A, 0, none⟩), Value.pointer (some ⟨A1, 0, none⟩)] ++ ((Array.replicate 4 undef).setIfInBounds 1 (Value.iface u pv)).setIfInBounds 2 (Value.bool true)) = #[Value.pointer (some ⟨A, 0, none⟩), Value.pointer (some ⟨A1, 0, none⟩), undef, Value.iface u pv, Value.bool true, undef] from rfl]
  have b1 := alloc_below w (.cells zero4 33)
  have T1 := Lib.hid (there_later ht b1)
  have r0 : (w.alloc (.cells zero4 33)).rangeAt w.heap.size 0 (xcells zeroX (.slice Option.none 0 0)) := new_range w (xcells zeroX (.slice Option.none 0 0)).toArray 33
  have hc1 := keeps b1 hc
  have hz1 : (w.alloc (.cells zero4 33)).frozen? ⟨A1, 0, Option.none⟩ = false := (rdF_iff.1 (keepsF b1 (rdF_iff.2 ⟨hz, hc⟩))).1
  have B1 := Lib.hid b1
  clear b1
  go_wp2_with (first | (refine wpList_load_mid rfl 33 _ rfl w.heap.size 0 rfl _ _ r0 Tryz.underlying33 rfl sizeIE2 ?_) | (refine store_abs rfl 33 _ _ rfl A 0 (xcells zeroX (.slice Option.none 0 0)).toArray rfl rfl T1.out sizeIE2 (oneX zeroX _ rfl) ?_; intro W hW; have q1 : W.cell? ⟨A1, 0, Option.none⟩ = some (.bool x) := (by rw [← hW]; exact (rdF_iff.1 (rdF_sets (rdF_iff.2 ⟨hz1, hc1⟩) (Ne.symm hne))).2); have q1f : W.frozen? ⟨A1, 0, Option.none⟩ = false := (by rw [← hW]; exact (rdF_iff.1 (rdF_sets (rdF_iff.2 ⟨hz1, hc1⟩) (Ne.symm hne))).1)))
  have rW : W.rangeAt A 0 (xcells zeroX (.slice Option.none 0 0)) := by rw [← hW]; exact World.rangeAt_setCells_same _ _ _ _ T1.out
  refine ⟨rfl, _, rfl, .tuple #[], by simp [results, Tryz.results108], rfl, rfl, ?_, ?_, ?_⟩
  · exact World.rangeAt_setCells_apart rW A1 0 [.bool false] (.inl hne)
  · exact World.cell?_setCell_same _ _ _ q1
  · intro B h1 h2 h3
    have k1 : Below B w (w.alloc (.cells zero4 33)) := (Below.refl B w).alloc h3 _
    have k2 : Below B w W := by rw [← hW]; exact below_sets _ _ k1 h1
    exact below_sets [.bool false] 0 k2 h2
set_option maxRecDepth 100000 in
theorem catchE_idle (A A1 : Nat) (w : World) :
    CallsD Tryz.prog 108 #[.pointer (some ⟨A, 0, none⟩), .pointer (some ⟨A1, 0, none⟩)] .returning w fun e u' w' => e = .returned (.tuple #[]) ∧ u' = .returning ∧ w' = w := by
  refine callsD_of_wpS Tryz.func108 rfl fun c₀ cs hu => ?_
  apply wpS_seq
  apply wpS_region
  simp [wpOpsS, go_sem, recoverD, hu, Tryz.ntmps108, Exit.thenS]
  refine wpS_cond (t := false) (by simp [Act.eval, Array.replicate]) ?_
  simp only [Bool.false_eq_true, if_false]
  refine wpS_of_wp (wp_skip ?_)
  cases c₀
  simp_all [bodyPostS, results, Tryz.results108]
end Go.Proofs.YtkhccpjkajhnpaaGreatDoor
