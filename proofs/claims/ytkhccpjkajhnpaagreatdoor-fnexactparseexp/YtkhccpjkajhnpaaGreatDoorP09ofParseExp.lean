/-
  Texts in one: ParLeaf, ParGood, ParSt, AstVar, AstCopy.
-/
import Derived.Test.YtkhccpjkajhnpaaGreatDoorParRead
import Derived.Test.YtkhccpjkajhnpaaGreatDoorP07ofParseExp
/-
  The specification's reader: the contracts of l5Num, l5Name.
-/
namespace Go.Proofs.YtkhccpjkajhnpaaGreatDoor
open Go.RowKit Go.Lib
set_option linter.unusedSimpArgs false
set_option linter.unusedVariables false

/-- What is handed back: of the sign that stands there, or nothing. -/
def l5NumOut (ts : List T) (p : Nat) (R : Bool) (e : Ending) : Prop := (R = true ∧ ∃ t, ts[p]? = some t ∧ e = .returned (.int .i64 t.n)) ∨ (R = false ∧ e = .returned (.int .i64 0))
def l5NameOut (ts : List T) (p : Nat) (R : Bool) (e : Ending) : Prop := (R = true ∧ ∃ t, ts[p]? = some t ∧ e = .returned (.string (bs t.s))) ∨ (R = false ∧ e = .returned (.string ⟨#[]⟩))
set_option maxHeartbeats 2000000 in
set_option maxRecDepth 100000 in
theorem l5Num_is (b : Nat) (v : Value) (ts : List T) (p : Nat) (deep : Int) (bad : Bool) (R : Bool) (hR : kindR bad 2 (ts.drop p) = R) (w : World) (st : Rd5 b v ts p deep bad w) :
    Calls Tryz.prog 43 #[.pointer (some ⟨b, 0, none⟩)] w fun e w' => l5NumOut ts p R e ∧ Rd5 b v ts (p + R.toNat) deep (bad || !R) w' ∧ Wr b w w' := by
  have S := Lib.hid st
  have hts := st.hts
  have CK := Lib.hid (l5Kind_is b v ts p deep bad 2 R hR w st)
  have HK := Lib.hid hR
  clear hR st
  cases R with
  | false =>
    go_enter Tryz.func43, Tryz.ntmps43
    go_wp2_with fail
    refine CK.out.mono ?_
    rintro e w2 ⟨rfl, hb2⟩
    have S2 := Lib.hid (S.out.later hb2)
    have B2 := Lib.hid hb2
    clear hb2 CK
    have q3 := S2.out.cells.2.2.2
    have q3f := S2.out.free 3 (by omega)
    have S4 : Hid (Rd5 b v ts p deep true (w2.setCell ⟨b, 3, Option.none⟩ (.bool true))) := Lib.hid (S2.out.setBad true)
    have WW := Lib.hid ((Wr.of_below (b := b) B2.out).trans (S2.out.wset 3 (.bool true)))
    go_wp2
    go_ret
    exact ⟨.inr ⟨rfl, rfl⟩, by rw [Bool.not_false, Bool.or_true]; exact S4.out, WW.out⟩
  | true =>
    obtain ⟨rfl, t, ht, hk, hlt⟩ := kindR_true HK.out
    have hltI : (p : Int) < (ts.length : Int) := by omega
    have hp0 : (0 : Int) ≤ (p : Int) := by omega
    obtain ⟨g, c, rfl, _, _, _⟩ := S.out.row.at ht
    have HT := Lib.hid ht
    clear ht hk HK
    go_enter Tryz.func43, Tryz.ntmps43
    go_wp2_with fail
    refine CK.out.mono ?_
    rintro e w2 ⟨rfl, hb2⟩
    have S2 := Lib.hid (S.out.later hb2)
    have B2 := Lib.hid hb2
    clear hb2 CK
    have q1 := S2.out.cells.2.1
    have q1f := S2.out.free 1 (by omega)
    have hw : IntKind.i64.wrap ((p : Int) + 1) = (p : Int) + 1 := wrap_small _ (by omega) (by omega)
    go_wp2_with fail
    obtain ⟨W4, HW4⟩ : ∃ W, Hid (w2.setCell ⟨b, 1, Option.none⟩ (.int .i64 ((p : Int) + 1)) = W) := ⟨_, Lib.hid rfl⟩
    have S4 : Hid (Rd5 b (.slice (some ⟨g, 0, Option.none⟩) ts.length c) ts (p + 1) deep false W4) := Lib.hid (by rw [← HW4.out]; exact S2.out.setAt (p + 1) (by omega))
    have WW : Hid (Wr b w W4) := Lib.hid (by rw [← HW4.out]; exact (Wr.of_below (b := b) B2.out).trans (S2.out.wset 1 (.int .i64 ((p : Int) + 1))))
    obtain ⟨g', c', hvv, c0, c1, c2⟩ := S4.out.row.at HT.out
    injection hvv with e1 e2 e3
    injection e1 with e1
    injection e1 with e1
    subst e1
    have C0 := Lib.hid c0
    have C1 := Lib.hid c1
    have C2 := Lib.hid c2
    have bd : Below W4.heap.size W4 W4.drew := (Below.refl _ W4).drew
    have hw2 : IntKind.i64.wrap ((p : Int) + 1 - 1) = (p : Int) := by rw [show (p : Int) + 1 - 1 = (p : Int) by omega]; exact wrap_small _ (by omega) (by omega)
    have hw3 : IntKind.i64.wrap (p : Int) = (p : Int) := wrap_small _ (by omega) (by omega)
    clear c0 c1 c2 q1 q1f e2 e3
    rw [show w2.setCell ⟨b, 1, Option.none⟩ (.int .i64 ((p : Int) + 1)) = W4 from HW4.out]
    clear HW4
    refine wp_region_held_drew (S := Below W4.heap.size W4) (by kernel_rfl) bd (fun hHeld => ?_)
    refine wpAnyH_take (i := 0) (v := .pointer (some ⟨b, 0, Option.none⟩)) rfl (by kernel_rfl) (by kernel_rfl) (by kernel_rfl) (fun _ _ _ h => h) (Or.inl ⟨by rfl, ?yx0⟩) hHeld ?_
    case yx0 => intro w hSw; go_simp
    simp only [Act.put, List.getElem_toArray, List.getElem_cons_succ, List.getElem_cons_zero, List.setIfInBounds_toArray, List.set_cons_zero, List.set_cons_succ]
    refine wpAnyH_take (i := 1) (v := .pointer (some ⟨b, 0, Option.none⟩)) rfl (by kernel_rfl) (by kernel_rfl) (by kernel_rfl) (fun _ _ _ h => h) (Or.inl ⟨by rfl, ?yx1⟩) hHeld ?_
    case yx1 => intro w hSw; go_simp
    simp only [Act.put, List.getElem_toArray, List.getElem_cons_succ, List.getElem_cons_zero, List.setIfInBounds_toArray, List.set_cons_zero, List.set_cons_succ]
    refine wpAnyH_take (i := 2) (v := .pointer (some ⟨b, 0, Option.none⟩)) rfl (by kernel_rfl) (by kernel_rfl) (by kernel_rfl) (fun _ _ _ h => h) (Or.inl ⟨by rfl, ?yx2⟩) hHeld ?_
    case yx2 => intro w hSw; go_simp
    simp only [Act.put, List.getElem_toArray, List.getElem_cons_succ, List.getElem_cons_zero, List.setIfInBounds_toArray, List.set_cons_zero, List.set_cons_succ]
    refine wpAnyH_take (i := 3) (v := .slice (some ⟨g, 0, Option.none⟩) ts.length c) rfl (by kernel_rfl) (by kernel_rfl) (by kernel_rfl) (fun _ _ _ h => h) (Or.inl ⟨by rfl, ?yx3⟩) hHeld ?_
    case yx3 => intro w hSw; have q := (S4.out.later hSw).cells; have q0 := q.1; have q1 := q.2.1; have q2 := q.2.2.1; have q3 := q.2.2.2; go_simp
    simp only [Act.put, List.getElem_toArray, List.getElem_cons_succ, List.getElem_cons_zero, List.setIfInBounds_toArray, List.set_cons_zero, List.set_cons_succ]
    refine wpAnyH_take (i := 4) (v := .pointer (some ⟨b, 0, Option.none⟩)) rfl (by kernel_rfl) (by kernel_rfl) (by kernel_rfl) (fun _ _ _ h => h) (Or.inl ⟨by rfl, ?yx4⟩) hHeld ?_
    case yx4 => intro w hSw; go_simp
    simp only [Act.put, List.getElem_toArray, List.getElem_cons_succ, List.getElem_cons_zero, List.setIfInBounds_toArray, List.set_cons_zero, List.set_cons_succ]
    refine wpAnyH_take (i := 5) (v := .pointer (some ⟨b, 0, Option.none⟩)) rfl (by kernel_rfl) (by kernel_rfl) (by kernel_rfl) (fun _ _ _ h => h) (Or.inl ⟨by rfl, ?yx5⟩) hHeld ?_
    case yx5 => intro w hSw; go_simp
    simp only [Act.put, List.getElem_toArray, List.getElem_cons_succ, List.getElem_cons_zero, List.setIfInBounds_toArray, List.set_cons_zero, List.set_cons_succ]
    refine wpAnyH_take (i := 6) (v := .pointer (some ⟨b, 1, Option.none⟩)) rfl (by kernel_rfl) (by kernel_rfl) (by kernel_rfl) (fun _ _ _ h => h) (Or.inl ⟨by rfl, ?yx6⟩) hHeld ?_
    case yx6 => intro w hSw; go_simp
    simp only [Act.put, List.getElem_toArray, List.getElem_cons_succ, List.getElem_cons_zero, List.setIfInBounds_toArray, List.set_cons_zero, List.set_cons_succ]
    refine wpAnyH_take (i := 7) (v := .int .i64 ((p : Int) + 1)) rfl (by kernel_rfl) (by kernel_rfl) (by kernel_rfl) (fun _ _ _ h => h) (Or.inl ⟨by rfl, ?yx7⟩) hHeld ?_
    case yx7 => intro w hSw; have q := (S4.out.later hSw).cells; have q0 := q.1; have q1 := q.2.1; have q2 := q.2.2.1; have q3 := q.2.2.2; go_simp
    simp only [Act.put, List.getElem_toArray, List.getElem_cons_succ, List.getElem_cons_zero, List.setIfInBounds_toArray, List.set_cons_zero, List.set_cons_succ]
    refine wpAnyH_take (i := 8) (v := .int .i64 (p : Int)) rfl (by kernel_rfl) (by kernel_rfl) (by kernel_rfl) (fun _ _ _ h => h) (Or.inl ⟨by rfl, ?yx8⟩) hHeld ?_
    case yx8 => intro w hSw; go_simp
    simp only [Act.put, List.getElem_toArray, List.getElem_cons_succ, List.getElem_cons_zero, List.setIfInBounds_toArray, List.set_cons_zero, List.set_cons_succ]
    refine wpAnyH_take (i := 9) (v := .pointer (some ⟨g, p * 3, Option.none⟩)) rfl (by kernel_rfl) (by kernel_rfl) (by kernel_rfl) (fun _ _ _ h => h) (Or.inl ⟨by rfl, ?yx9⟩) hHeld ?_
    case yx9 => intro w hSw; go_simp
    simp only [Act.put, List.getElem_toArray, List.getElem_cons_succ, List.getElem_cons_zero, List.setIfInBounds_toArray, List.set_cons_zero, List.set_cons_succ]
    refine wpAnyH_take (i := 10) (v := .pointer (some ⟨g, p * 3 + 2, Option.none⟩)) rfl (by kernel_rfl) (by kernel_rfl) (by kernel_rfl) (fun _ _ _ h => h) (Or.inl ⟨by rfl, ?yx10⟩) hHeld ?_
    case yx10 => intro w hSw; go_simp
    simp only [Act.put, List.getElem_toArray, List.getElem_cons_succ, List.getElem_cons_zero, List.setIfInBounds_toArray, List.set_cons_zero, List.set_cons_succ]
    refine wpAnyH_take (i := 11) (v := .int .i64 t.n) rfl (by kernel_rfl) (by kernel_rfl) (by kernel_rfl) (fun _ _ _ h => h) (Or.inl ⟨by rfl, ?yx11⟩) hHeld ?_
    case yx11 => intro w hSw; have q0 := keeps hSw C0.out; have q1 := keeps hSw C1.out; have q2 := keeps hSw C2.out; go_simp
    simp only [Act.put, List.getElem_toArray, List.getElem_cons_succ, List.getElem_cons_zero, List.setIfInBounds_toArray, List.set_cons_zero, List.set_cons_succ]
    refine wpAnyH_take (i := 12) (v := .int .i64 t.n) rfl (by kernel_rfl) (by kernel_rfl) (by kernel_rfl) (fun _ _ _ h => h) (Or.inl ⟨by rfl, ?yx12⟩) hHeld ?_
    case yx12 => intro w hSw; go_simp
    simp only [Act.put, List.getElem_toArray, List.getElem_cons_succ, List.getElem_cons_zero, List.setIfInBounds_toArray, List.set_cons_zero, List.set_cons_succ]
    refine wpAnyH_done (by kernel_rfl) ?_ _
    have B := Lib.hid hHeld
    clear hHeld bd
    go_wp2
    go_ret
    exact ⟨.inl ⟨rfl, t, HT.out, rfl⟩, S4.out.later B.out, WW.out.trans (.of_below B.out)⟩
set_option maxHeartbeats 2000000 in
set_option maxRecDepth 100000 in
theorem l5Name_is (b : Nat) (v : Value) (ts : List T) (p : Nat) (deep : Int) (bad : Bool) (R : Bool) (hR : kindR bad 1 (ts.drop p) = R) (w : World) (st : Rd5 b v ts p deep bad w) :
    Calls Tryz.prog 42 #[.pointer (some ⟨b, 0, none⟩)] w fun e w' => l5NameOut ts p R e ∧ Rd5 b v ts (p + R.toNat) deep (bad || !R) w' ∧ Wr b w w' := by
  have S := Lib.hid st
  have hts := st.hts
  have CK := Lib.hid (l5Kind_is b v ts p deep bad 1 R hR w st)
  have HK := Lib.hid hR
  clear hR st
  cases R with
  | false =>
    go_enter Tryz.func42, Tryz.ntmps42
    go_wp2_with fail
    refine CK.out.mono ?_
    rintro e w2 ⟨rfl, hb2⟩
    have S2 := Lib.hid (S.out.later hb2)
    have B2 := Lib.hid hb2
    clear hb2 CK
    have q3 := S2.out.cells.2.2.2
    have q3f := S2.out.free 3 (by omega)
    have S4 : Hid (Rd5 b v ts p deep true (w2.setCell ⟨b, 3, Option.none⟩ (.bool true))) := Lib.hid (S2.out.setBad true)
    have WW := Lib.hid ((Wr.of_below (b := b) B2.out).trans (S2.out.wset 3 (.bool true)))
    go_wp2
    go_ret
    exact ⟨.inr ⟨rfl, rfl⟩, by rw [Bool.not_false, Bool.or_true]; exact S4.out, WW.out⟩
  | true =>
    obtain ⟨rfl, t, ht, hk, hlt⟩ := kindR_true HK.out
    have hltI : (p : Int) < (ts.length : Int) := by omega
    have hp0 : (0 : Int) ≤ (p : Int) := by omega
    obtain ⟨g, c, rfl, _, _, _⟩ := S.out.row.at ht
    have HT := Lib.hid ht
    clear ht hk HK
    go_enter Tryz.func42, Tryz.ntmps42
    go_wp2_with fail
    refine CK.out.mono ?_
    rintro e w2 ⟨rfl, hb2⟩
    have S2 := Lib.hid (S.out.later hb2)
    have B2 := Lib.hid hb2
    clear hb2 CK
    have q1 := S2.out.cells.2.1
    have q1f := S2.out.free 1 (by omega)
    have hw : IntKind.i64.wrap ((p : Int) + 1) = (p : Int) + 1 := wrap_small _ (by omega) (by omega)
    go_wp2_with fail
    obtain ⟨W4, HW4⟩ : ∃ W, Hid (w2.setCell ⟨b, 1, Option.none⟩ (.int .i64 ((p : Int) + 1)) = W) := ⟨_, Lib.hid rfl⟩
    have S4 : Hid (Rd5 b (.slice (some ⟨g, 0, Option.none⟩) ts.length c) ts (p + 1) deep false W4) := Lib.hid (by rw [← HW4.out]; exact S2.out.setAt (p + 1) (by omega))
    have WW : Hid (Wr b w W4) := Lib.hid (by rw [← HW4.out]; exact (Wr.of_below (b := b) B2.out).trans (S2.out.wset 1 (.int .i64 ((p : Int) + 1))))
    obtain ⟨g', c', hvv, c0, c1, c2⟩ := S4.out.row.at HT.out
    injection hvv with e1 e2 e3
    injection e1 with e1
    injection e1 with e1
    subst e1
    have C0 := Lib.hid c0
    have C1 := Lib.hid c1
    have C2 := Lib.hid c2
    have bd : Below W4.heap.size W4 W4.drew := (Below.refl _ W4).drew
    have hw2 : IntKind.i64.wrap ((p : Int) + 1 - 1) = (p : Int) := by rw [show (p : Int) + 1 - 1 = (p : Int) by omega]; exact wrap_small _ (by omega) (by omega)
    have hw3 : IntKind.i64.wrap (p : Int) = (p : Int) := wrap_small _ (by omega) (by omega)
    clear c0 c1 c2 q1 q1f e2 e3
    rw [show w2.setCell ⟨b, 1, Option.none⟩ (.int .i64 ((p : Int) + 1)) = W4 from HW4.out]
    clear HW4
    refine wp_region_held_drew (S := Below W4.heap.size W4) (by kernel_rfl) bd (fun hHeld => ?_)
    refine wpAnyH_take (i := 0) (v := .pointer (some ⟨b, 0, Option.none⟩)) rfl (by kernel_rfl) (by kernel_rfl) (by kernel_rfl) (fun _ _ _ h => h) (Or.inl ⟨by rfl, ?yx0⟩) hHeld ?_
    case yx0 => intro w hSw; go_simp
    simp only [Act.put, List.getElem_toArray, List.getElem_cons_succ, List.getElem_cons_zero, List.setIfInBounds_toArray, List.set_cons_zero, List.set_cons_succ]
    refine wpAnyH_take (i := 1) (v := .pointer (some ⟨b, 0, Option.none⟩)) rfl (by kernel_rfl) (by kernel_rfl) (by kernel_rfl) (fun _ _ _ h => h) (Or.inl ⟨by rfl, ?yx1⟩) hHeld ?_
    case yx1 => intro w hSw; go_simp
    simp only [Act.put, List.getElem_toArray, List.getElem_cons_succ, List.getElem_cons_zero, List.setIfInBounds_toArray, List.set_cons_zero, List.set_cons_succ]
    refine wpAnyH_take (i := 2) (v := .pointer (some ⟨b, 0, Option.none⟩)) rfl (by kernel_rfl) (by kernel_rfl) (by kernel_rfl) (fun _ _ _ h => h) (Or.inl ⟨by rfl, ?yx2⟩) hHeld ?_
    case yx2 => intro w hSw; go_simp
    simp only [Act.put, List.getElem_toArray, List.getElem_cons_succ, List.getElem_cons_zero, List.setIfInBounds_toArray, List.set_cons_zero, List.set_cons_succ]
    refine wpAnyH_take (i := 3) (v := .slice (some ⟨g, 0, Option.none⟩) ts.length c) rfl (by kernel_rfl) (by kernel_rfl) (by kernel_rfl) (fun _ _ _ h => h) (Or.inl ⟨by rfl, ?yx3⟩) hHeld ?_
    case yx3 => intro w hSw; have q := (S4.out.later hSw).cells; have q0 := q.1; have q1 := q.2.1; have q2 := q.2.2.1; have q3 := q.2.2.2; go_simp
    simp only [Act.put, List.getElem_toArray, List.getElem_cons_succ, List.getElem_cons_zero, List.setIfInBounds_toArray, List.set_cons_zero, List.set_cons_succ]
    refine wpAnyH_take (i := 4) (v := .pointer (some ⟨b, 0, Option.none⟩)) rfl (by kernel_rfl) (by kernel_rfl) (by kernel_rfl) (fun _ _ _ h => h) (Or.inl ⟨by rfl, ?yx4⟩) hHeld ?_
    case yx4 => intro w hSw; go_simp
    simp only [Act.put, List.getElem_toArray, List.getElem_cons_succ, List.getElem_cons_zero, List.setIfInBounds_toArray, List.set_cons_zero, List.set_cons_succ]
    refine wpAnyH_take (i := 5) (v := .pointer (some ⟨b, 0, Option.none⟩)) rfl (by kernel_rfl) (by kernel_rfl) (by kernel_rfl) (fun _ _ _ h => h) (Or.inl ⟨by rfl, ?yx5⟩) hHeld ?_
    case yx5 => intro w hSw; go_simp
    simp only [Act.put, List.getElem_toArray, List.getElem_cons_succ, List.getElem_cons_zero, List.setIfInBounds_toArray, List.set_cons_zero, List.set_cons_succ]
    refine wpAnyH_take (i := 6) (v := .pointer (some ⟨b, 1, Option.none⟩)) rfl (by kernel_rfl) (by kernel_rfl) (by kernel_rfl) (fun _ _ _ h => h) (Or.inl ⟨by rfl, ?yx6⟩) hHeld ?_
    case yx6 => intro w hSw; go_simp
    simp only [Act.put, List.getElem_toArray, List.getElem_cons_succ, List.getElem_cons_zero, List.setIfInBounds_toArray, List.set_cons_zero, List.set_cons_succ]
    refine wpAnyH_take (i := 7) (v := .int .i64 ((p : Int) + 1)) rfl (by kernel_rfl) (by kernel_rfl) (by kernel_rfl) (fun _ _ _ h => h) (Or.inl ⟨by rfl, ?yx7⟩) hHeld ?_
    case yx7 => intro w hSw; have q := (S4.out.later hSw).cells; have q0 := q.1; have q1 := q.2.1; have q2 := q.2.2.1; have q3 := q.2.2.2; go_simp
    simp only [Act.put, List.getElem_toArray, List.getElem_cons_succ, List.getElem_cons_zero, List.setIfInBounds_toArray, List.set_cons_zero, List.set_cons_succ]
    refine wpAnyH_take (i := 8) (v := .int .i64 (p : Int)) rfl (by kernel_rfl) (by kernel_rfl) (by kernel_rfl) (fun _ _ _ h => h) (Or.inl ⟨by rfl, ?yx8⟩) hHeld ?_
    case yx8 => intro w hSw; go_simp
    simp only [Act.put, List.getElem_toArray, List.getElem_cons_succ, List.getElem_cons_zero, List.setIfInBounds_toArray, List.set_cons_zero, List.set_cons_succ]
    refine wpAnyH_take (i := 9) (v := .pointer (some ⟨g, p * 3, Option.none⟩)) rfl (by kernel_rfl) (by kernel_rfl) (by kernel_rfl) (fun _ _ _ h => h) (Or.inl ⟨by rfl, ?yx9⟩) hHeld ?_
    case yx9 => intro w hSw; go_simp
    simp only [Act.put, List.getElem_toArray, List.getElem_cons_succ, List.getElem_cons_zero, List.setIfInBounds_toArray, List.set_cons_zero, List.set_cons_succ]
    refine wpAnyH_take (i := 10) (v := .pointer (some ⟨g, p * 3 + 1, Option.none⟩)) rfl (by kernel_rfl) (by kernel_rfl) (by kernel_rfl) (fun _ _ _ h => h) (Or.inl ⟨by rfl, ?yx10⟩) hHeld ?_
    case yx10 => intro w hSw; go_simp
    simp only [Act.put, List.getElem_toArray, List.getElem_cons_succ, List.getElem_cons_zero, List.setIfInBounds_toArray, List.set_cons_zero, List.set_cons_succ]
    refine wpAnyH_take (i := 11) (v := .string (bs t.s)) rfl (by kernel_rfl) (by kernel_rfl) (by kernel_rfl) (fun _ _ _ h => h) (Or.inl ⟨by rfl, ?yx11⟩) hHeld ?_
    case yx11 => intro w hSw; have q0 := keeps hSw C0.out; have q1 := keeps hSw C1.out; have q2 := keeps hSw C2.out; go_simp
    simp only [Act.put, List.getElem_toArray, List.getElem_cons_succ, List.getElem_cons_zero, List.setIfInBounds_toArray, List.set_cons_zero, List.set_cons_succ]
    refine wpAnyH_take (i := 12) (v := .string (bs t.s)) rfl (by kernel_rfl) (by kernel_rfl) (by kernel_rfl) (fun _ _ _ h => h) (Or.inl ⟨by rfl, ?yx12⟩) hHeld ?_
    case yx12 => intro w hSw; go_simp
    simp only [Act.put, List.getElem_toArray, List.getElem_cons_succ, List.getElem_cons_zero, List.setIfInBounds_toArray, List.set_cons_zero, List.set_cons_succ]
    refine wpAnyH_done (by kernel_rfl) ?_ _
    have B := Lib.hid hHeld
    clear hHeld bd
    go_wp2
    go_ret
    exact ⟨.inl ⟨rfl, t, HT.out, rfl⟩, S4.out.later B.out, WW.out.trans (.of_below B.out)⟩
end Go.Proofs.YtkhccpjkajhnpaaGreatDoor
/-
  Which signs are which: a mark's text is a mark's alone, a kept word's a kept word's alone (no Go).
-/
namespace Go.Proofs.YtkhccpjkajhnpaaGreatDoor
set_option linter.unusedSimpArgs false
set_option linter.unusedVariables false

theorem good_cases {t : T} (h : Good t) : (t.k = 3 ∧ t.s ∈ keptL) ∨ (t.k = 1 ∧ t.s ∉ keptL ∧ (∀ c ∈ t.s, kind c = 1) ∧ t.s ≠ []) ∨ (t.k = 2 ∧ t.s = []) ∨ (t.k = 4 ∧ ∃ c, t.s = [c] ∧ kind c = 3) := by
  obtain ⟨k, p, hk, hne, hall, hgo, ht⟩ := h
  unfold tok at ht
  rcases hk with rfl | rfl | rfl
  · rw [if_pos rfl] at ht
    split at ht
    · rename_i hm; injection ht with ht; subst ht; exact .inl ⟨rfl, hm⟩
    · rename_i hm
      split at ht
      · injection ht with ht; subst ht; exact .inr (.inl ⟨rfl, hm, hall, hne⟩)
      · cases ht
  · rw [if_neg (by omega), if_pos rfl] at ht
    split at ht
    · split at ht
      · injection ht with ht; subst ht; exact .inr (.inr (.inl ⟨rfl, rfl⟩))
      · cases ht
    · cases ht
  · rw [if_neg (by omega), if_neg (by omega), if_pos rfl] at ht
    injection ht with ht
    subst ht
    refine .inr (.inr (.inr ⟨rfl, ?_⟩))
    rcases hgo with hgo | hgo
    · simp [goes] at hgo
    · match p, hgo with
      | [c], _ => exact ⟨c, rfl, hall c (by simp)⟩
theorem kept_kind : ∀ s ∈ keptL, s ≠ [] ∧ ∀ c ∈ s, kind c = 1 := by decide
theorem good_mark {t : T} (h : Good t) {c : UInt8} (hc : kind c = 3) (e : t.s = [c]) : t.k = 4 := by
  rcases good_cases h with ⟨_, hm⟩ | ⟨_, _, hall, _⟩ | ⟨_, hs⟩ | ⟨hk, _⟩
  · have := (kept_kind t.s hm).2 c (by rw [e]; simp)
    omega
  · have := hall c (by rw [e]; simp)
    omega
  · rw [hs] at e; cases e
  · exact hk
theorem good_kept {t : T} (h : Good t) (hm : t.s ∈ keptL) : t.k = 3 := by
  rcases good_cases h with ⟨hk, _⟩ | ⟨_, hn, _⟩ | ⟨_, hs⟩ | ⟨_, c, hs, hc⟩
  · exact hk
  · exact absurd hm hn
  · exact absurd hs (kept_kind t.s hm).1
  · have := (kept_kind t.s hm).2 c (by rw [hs]; simp)
    omega
/-- Whether a mark, a kept word stands there. -/
theorem mark_eat {c : UInt8} (hc : kind c = 3) (bad : Bool) : ∀ (l : List T), (∀ t ∈ l, Good t) → isR bad 4 [c] l = (!bad && (eat [c] l).isSome)
  | [], _ => by cases bad <;> rfl
  | t :: r, hl => by
    have hg := hl t (by simp)
    by_cases e : t.s = [c]
    · have hk := good_mark hg hc e
      cases bad <;> simp [isR, kindR, eat, e, hk]
    · cases bad <;> simp [isR, kindR, eat, e]
theorem kept_eat {s : List UInt8} (hs : s ∈ keptL) (bad : Bool) : ∀ (l : List T), (∀ t ∈ l, Good t) → isR bad 3 s l = (!bad && (eat s l).isSome)
  | [], _ => by cases bad <;> rfl
  | t :: r, hl => by
    have hg := hl t (by simp)
    by_cases e : t.s = s
    · have hk := good_kept hg (by rw [e]; exact hs)
      cases bad <;> simp [isR, kindR, eat, e, hk]
    · cases bad <;> simp [isR, kindR, eat, e]
theorem eat_drop {s : List UInt8} {ts : List T} {p : Nat} {r : List T} (h : eat s (ts.drop p) = some r) : r = ts.drop (p + 1) ∧ p < ts.length := by
  obtain ⟨t, e, _⟩ := eat_some h
  have hlt : p < ts.length := by
    by_cases hlt : p < ts.length
    · exact hlt
    · rw [List.drop_of_length_le (by omega)] at e; cases e
  have ht : ts[p]? = some ts[p] := List.getElem?_eq_getElem hlt
  rw [dropT ht] at e
  injection e with _ e
  exact ⟨e.symm, hlt⟩
theorem drop_good {ts : List T} (hG : ∀ t ∈ ts, Good t) (p : Nat) : ∀ t ∈ ts.drop p, Good t := fun t ht => hG t (List.mem_of_mem_drop ht)
end Go.Proofs.YtkhccpjkajhnpaaGreatDoor
/-
  How reading goes on, step by step (no Go).
-/
namespace Go.Proofs.YtkhccpjkajhnpaaGreatDoor
set_option linter.unusedSimpArgs false
set_option linter.unusedVariables false

/-- The reader stands where this is left, or has given up. -/
def St5 (ts : List T) : Option (List T) → Nat → Bool → Prop
  | some l, p, bad => bad = false ∧ ts.drop p = l
  | none, _, bad => bad = true
def StE5 (ts : List T) : Rest → X → Nat → Bool → Prop
  | some (y, l), x, p, bad => bad = false ∧ x = y ∧ ts.drop p = l
  | none, _, _, bad => bad = true
def from5 (bad : Bool) (l : List T) : Option (List T) := if bad then none else some l
def resB (bad : Bool) (f : List T → Rest) (l : List T) : Rest := if bad then none else f l
theorem St5.start (ts : List T) (p : Nat) (bad : Bool) : St5 ts (from5 bad (ts.drop p)) p bad := by
  cases bad with
  | true => rfl
  | false => exact ⟨rfl, rfl⟩
theorem resB_bind (bad : Bool) (f : List T → Rest) (l : List T) : resB bad f l = (from5 bad l).bind f := by cases bad <;> rfl
theorem St5.mark {ts : List T} (hG : ∀ t ∈ ts, Good t) {c : UInt8} (hc : kind c = 3) {g : Option (List T)} {p : Nat} {bad R : Bool} (h : St5 ts g p bad) (hR : isR bad 4 [c] (ts.drop p) = R) : St5 ts (g.bind (eat [c])) (p + R.toNat) (bad || !R) := by
  rw [mark_eat hc bad _ (drop_good hG p)] at hR
  cases g with
  | none => have h : bad = true := h; subst h; subst hR; rfl
  | some l =>
    obtain ⟨rfl, rfl⟩ := h
    cases he : eat [c] (ts.drop p) with
    | none => rw [he] at hR; subst hR; show St5 ts (eat [c] (ts.drop p)) _ _; rw [he]; rfl
    | some l =>
      rw [he] at hR
      subst hR
      show St5 ts (eat [c] (ts.drop p)) _ _
      rw [he]
      exact ⟨rfl, (eat_drop he).1.symm⟩
theorem St5.kept {ts : List T} (hG : ∀ t ∈ ts, Good t) {s : List UInt8} (hs : s ∈ keptL) {g : Option (List T)} {p : Nat} {bad R : Bool} (h : St5 ts g p bad) (hR : isR bad 3 s (ts.drop p) = R) : St5 ts (g.bind (eat s)) (p + R.toNat) (bad || !R) := by
  rw [kept_eat hs bad _ (drop_good hG p)] at hR
  cases g with
  | none => have h : bad = true := h; subst h; subst hR; rfl
  | some l =>
    obtain ⟨rfl, rfl⟩ := h
    cases he : eat s (ts.drop p) with
    | none => rw [he] at hR; subst hR; show St5 ts (eat s (ts.drop p)) _ _; rw [he]; rfl
    | some l =>
      rw [he] at hR
      subst hR
      show St5 ts (eat s (ts.drop p)) _ _
      rw [he]
      exact ⟨rfl, (eat_drop he).1.symm⟩
theorem St5.sub {ts : List T} {sub : List T → Rest} {g : Option (List T)} {p p' : Nat} {bad bad' : Bool} {x : X} (h : St5 ts g p bad) (hr : StE5 ts (resB bad sub (ts.drop p)) x p' bad') : StE5 ts (g.bind sub) x p' bad' := by
  cases g with
  | none => have h : bad = true := h; subst h; exact hr
  | some l => obtain ⟨rfl, rfl⟩ := h; exact hr
theorem StE5.st {ts : List T} {r : Rest} {x : X} {p : Nat} {bad : Bool} (h : StE5 ts r x p bad) : St5 ts (r.map Prod.snd) p bad := by
  cases r with
  | none => exact h
  | some y => exact ⟨h.1, h.2.2⟩
/-- A pair, behind its word. -/
theorem choice_st {ts : List T} {sub : List T → Rest} {k : Int} {g : Option (List T)} {x1 x2 : X} {p3 p6 p7 : Nat} {b3 b6 b7 : Bool}
    (h1 : StE5 ts ((g.bind (eat [40])).bind sub) x1 p3 b3) (h2 : StE5 ts (((((g.bind (eat [40])).bind sub).map Prod.snd).bind (eat [44])).bind sub) x2 p6 b6)
    (h3 : St5 ts (((((((g.bind (eat [40])).bind sub).map Prod.snd).bind (eat [44])).bind sub).map Prod.snd).bind (eat [41])) p7 b7) : StE5 ts (g.bind (choiceP sub k)) (twoX k x1 x2) p7 b7 := by
  cases g with
  | none => exact h3
  | some l =>
    show StE5 ts (choiceP sub k l) _ _ _
    unfold choiceP
    simp only [Option.bind_some] at h1 h2 h3
    cases e1 : eat [40] l with
    | none => rw [e1] at h3; simp only [e1]; exact h3
    | some l1 =>
      rw [e1] at h1 h2 h3
      simp only [Option.bind_some] at h1 h2 h3
      cases e2 : sub l1 with
      | none => rw [e2] at h3; simp only [e1, e2]; exact h3
      | some y =>
        obtain ⟨a, l2⟩ := y
        rw [e2] at h1 h2 h3
        simp only [Option.map_some, Option.bind_some] at h1 h2 h3
        obtain ⟨_, rfl, _⟩ := h1
        cases e3 : eat [44] l2 with
        | none => rw [e3] at h3; simp only [e1, e2, e3]; exact h3
        | some l3 =>
          rw [e3] at h2 h3
          simp only [Option.bind_some] at h2 h3
          cases e4 : sub l3 with
          | none => rw [e4] at h3; simp only [e1, e2, e3, e4]; exact h3
          | some z =>
            obtain ⟨c, l4⟩ := z
            rw [e4] at h2 h3
            simp only [Option.map_some, Option.bind_some] at h2 h3
            obtain ⟨_, rfl, _⟩ := h2
            cases e5 : eat [41] l4 with
            | none => rw [e5] at h3; simp only [e1, e2, e3, e4, e5]; exact h3
            | some l5 => rw [e5] at h3; simp only [e1, e2, e3, e4, e5]; exact ⟨h3.1, rfl, h3.2⟩
/-- In brackets. -/
theorem group_st {ts : List T} {sub : List T → Rest} {g : Option (List T)} {x1 : X} {p3 p7 : Nat} {b3 b7 : Bool}
    (h1 : StE5 ts (g.bind sub) x1 p3 b3) (h3 : St5 ts (((g.bind sub).map Prod.snd).bind (eat [41])) p7 b7) : StE5 ts (g.bind (groupP sub)) x1 p7 b7 := by
  cases g with
  | none => exact h3
  | some l =>
    show StE5 ts (groupP sub l) _ _ _
    unfold groupP
    simp only [Option.bind_some] at h1 h3
    cases e2 : sub l with
    | none => rw [e2] at h3; simp only [e2]; exact h3
    | some y =>
      obtain ⟨a, l2⟩ := y
      rw [e2] at h1 h3
      simp only [Option.map_some, Option.bind_some] at h1 h3
      obtain ⟨_, rfl, _⟩ := h1
      cases e3 : eat [41] l2 with
      | none => rw [e3] at h3; simp only [e2, e3]; exact h3
      | some l3 => rw [e3] at h3; simp only [e2, e3]; exact ⟨h3.1, rfl, h3.2⟩
/-- A place, behind its bracket. -/
theorem place_st {ts : List T} {sub : List T → Rest} {s : List UInt8} {l l1 : List T} (he : eat [91] l = some l1) {x1 : X} {p3 p7 : Nat} {b3 b7 : Bool}
    (h1 : StE5 ts (sub l1) x1 p3 b3) (h3 : St5 ts (((sub l1).map Prod.snd).bind (eat [93])) p7 b7) : StE5 ts (nameP sub s l) (atX s x1) p7 b7 := by
  unfold nameP
  rw [he]
  cases e2 : sub l1 with
  | none => rw [e2] at h3; simp only [e2]; exact h3
  | some y =>
    obtain ⟨a, l2⟩ := y
    rw [e2] at h1 h3
    simp only [Option.map_some, Option.bind_some] at h1 h3
    obtain ⟨_, rfl, _⟩ := h1
    cases e3 : eat [93] l2 with
    | none => rw [e3] at h3; simp only [e2, e3]; exact h3
    | some l3 => rw [e3] at h3; simp only [e2, e3]; exact ⟨h3.1, rfl, h3.2⟩
end Go.Proofs.YtkhccpjkajhnpaaGreatDoor
/-
  A local variable that holds an expression, while more is drawn (for l3Any).
-/
namespace Go.Proofs.YtkhccpjkajhnpaaGreatDoor
open Go.RowKit Go.Lib
set_option linter.unusedSimpArgs false
set_option linter.unusedVariables false

/-- It lies there whatever block n holds. -/
def EVx (n : Nat) (w : World) (lo : Nat) (F : EF) (v : Value) : Prop := ∀ W : World, (∀ (a : Addr) u, lo ≤ a.block → a.block ≠ n → w.cell? a = some u → W.cell? a = some u) → EV W lo F v
theorem EVx.ev {n lo : Nat} {w : World} {F : EF} {v : Value} (h : EVx n w lo F v) : EV w lo F v := h w fun _ _ _ _ h => h
theorem EVx.step {n lo : Nat} {w w' : World} {F : EF} {v : Value} (h : EVx n w lo F v) (hs : ∀ (a : Addr) u, lo ≤ a.block → a.block ≠ n → w.cell? a = some u → w'.cell? a = some u) : EVx n w' lo F v := fun W hW => h W fun a u h1 h2 h3 => hW a u h1 h2 (hs a u h1 h2 h3)
theorem EVx.wr {n lo b : Nat} {w w' : World} {F : EF} {v : Value} (h : EVx n w lo F v) (hw : Wr b w w') (hb : b + 1 ≤ lo) : EVx n w' lo F v := h.step fun a u h1 _ hc => hw.keeps a u (by omega) hc
theorem EVx.sets {n lo : Nat} {w : World} {F : EF} {v : Value} (h : EVx n w lo F v) (o : Nat) (vs : List Value) : EVx n (w.setCells n o vs) lo F v := h.step fun a u _ h2 hc => by
  rw [World.cell?_setCells_out n vs o w a (fun e _ => absurd e h2)]; exact hc
theorem EVx.of_old {n lo b : Nat} {w2 w : World} {F : EF} {v : Value} (h : EV w2 lo F v) (hw : Wr b w2 w) (hb : b + 1 ≤ lo) (hn : w2.heap.size ≤ n) : EVx n w lo F v := fun W hW =>
  h.same (Nat.le_refl _) fun a u hl hc => hW a u hl (by have := lt_of_cellA hc; omega) (hw.keeps a u (by omega) hc)
/-- A local variable at n that holds an expression; N is where the answer goes. -/
structure VarX (B : Nat) (a : Option Addr) (len cap b : Nat) (w0 : World) (N n : Nat) (x : X) (v : Value) (w : World) : Prop where
  rg : w.rangeAt n 0 (xcells x v)
  th : w.there n 0 4
  ex : EVx n w (N + 1) x.l v
  dw : Dw B a len cap b w
  wr : Wr b w0 w
  thN : w.there N 0 4
  hN : w0.heap.size = N
  hn : N < n
  hb : b < N
section
variable {B : Nat} {a : Option Addr} {len cap b : Nat} {w0 : World} {N n : Nat} {x : X} {v : Value} {w : World}
theorem VarX.step {w' : World} (h : VarX B a len cap b w0 N n x v w) (hw : Wr b w w') (d : Dw B a len cap b w') : VarX B a len cap b w0 N n x v w' :=
  ⟨range_wr h.rg hw (by have := h.hn; have := h.hb; omega), there_wr h.th hw (by have := h.hn; have := h.hb; omega), h.ex.wr hw (by have := h.hb; omega), d, h.wr.trans hw, there_wr h.thN hw (by have := h.hb; omega), h.hN, h.hn, h.hb⟩
theorem VarX.later {w' : World} (h : VarX B a len cap b w0 N n x v w) (hb : Below w.heap.size w w') : VarX B a len cap b w0 N n x v w' := h.step (.of_below hb) (h.dw.later hb)
theorem VarX.sets {y : X} {u : Value} (h : VarX B a len cap b w0 N n x v w) (he : EVx n w (N + 1) y.l u) : VarX B a len cap b w0 N n y u (w.setCells n 0 (xcells y u)) := by
  have hB : Below n w (w.setCells n 0 (xcells y u)) := below_sets _ _ (Below.refl _ _) (Nat.le_refl _)
  have hs : w.heap.size ≤ (w.setCells n 0 (xcells y u)).heap.size := by rw [size_sets]; exact Nat.le_refl _
  refine ⟨World.rangeAt_setCells_same _ _ _ _ h.th, World.there_setCells h.th _ _ _, he.sets _ _, ⟨h.dw.hlen, h.dw.hB, h.dw.hC.later (hB.mono (by have := h.dw.hB; have := h.hb; have := h.hn; omega)), h.dw.cur.later (hB.block b (by have := h.hb; have := h.hn; omega))⟩, ?_, World.there_setCells h.thN _ _ _, h.hN, h.hn, h.hb⟩
  exact ⟨hB.os.trans h.wr.os, hB.tape.trans h.wr.tape, hB.output.trans h.wr.output, Nat.le_trans h.wr.size hs, fun k hk hne => (hB.block k (by have := h.hN; have := h.hn; omega)).trans (h.wr.block k hk hne)⟩
theorem VarX.cells (h : VarX B a len cap b w0 N n x v w) : (w.cell? ⟨n, 0, Option.none⟩ = some (.int .i64 x.h.k) ∧ w.cell? ⟨n, 1, Option.none⟩ = some (.int .i64 x.h.n) ∧ w.cell? ⟨n, 2, Option.none⟩ = some (.string x.h.s) ∧ w.cell? ⟨n, 3, Option.none⟩ = some v) ∧ w.frozen? ⟨n, 0, Option.none⟩ = false ∧ w.frozen? ⟨n, 1, Option.none⟩ = false ∧ w.frozen? ⟨n, 2, Option.none⟩ = false := by
  have r0 := h.rg 0 _ rfl; have r1 := h.rg 1 _ rfl; have r2 := h.rg 2 _ rfl; have r3 := h.rg 3 _ rfl
  have t0 := (h.th 0 (by omega)).2; have t1 := (h.th 1 (by omega)).2; have t2 := (h.th 2 (by omega)).2
  simp only [Nat.zero_add, Nat.add_zero] at r0 r1 r2 r3 t0 t1 t2
  exact ⟨⟨r0, r1, r2, r3⟩, t0, t1, t2⟩
/-- One of the first three cells is set. -/
theorem VarX.set {y : X} (h : VarX B a len cap b w0 N n x v w) (i : Nat) (u : Value) (hi : i < 3) (hl : y.l = x.l) (hc : (xcells x v).set i u = xcells y v) : VarX B a len cap b w0 N n y v (w.setCell ⟨n, i, Option.none⟩ u) := by
  have e : w.setCell ⟨n, i, Option.none⟩ u = w.setCells n i [u] := rfl
  rw [e]
  have hB : Below n w (w.setCells n i [u]) := below_sets _ _ (Below.refl _ _) (Nat.le_refl _)
  have hs : w.heap.size ≤ (w.setCells n i [u]).heap.size := by rw [size_sets]; exact Nat.le_refl _
  have hth : w.there n i 1 := by have := there_part h.th i 1 (by omega); rwa [Nat.zero_add] at this
  refine ⟨?_, World.there_setCells h.th _ _ _, by rw [hl]; exact h.ex.sets _ _, ⟨h.dw.hlen, h.dw.hB, h.dw.hC.later (hB.mono (by have := h.dw.hB; have := h.hb; have := h.hn; omega)), h.dw.cur.later (hB.block b (by have := h.hb; have := h.hn; omega))⟩, ?_, World.there_setCells h.thN _ _ _, h.hN, h.hn, h.hb⟩
  · rw [← hc]
    intro j z hj
    rw [Nat.zero_add]
    by_cases hji : j = i
    · subst hji
      have hlen : j < (xcells x v).length := by simp [xcells]; omega
      rw [List.getElem?_set_self hlen] at hj
      have := World.rangeAt_setCells_same w n j [u] hth 0 u rfl
      rw [Nat.add_zero] at this
      rw [this]; exact hj
    · rw [List.getElem?_set_ne (fun e => hji e.symm)] at hj
      have hr := h.rg j z hj
      rw [Nat.zero_add] at hr
      rw [World.cell?_setCells_out n [u] i w ⟨n, j, Option.none⟩ (fun _ _ => by simp only [List.length_cons, List.length_nil]; omega)]
      exact hr
  · exact ⟨hB.os.trans h.wr.os, hB.tape.trans h.wr.tape, hB.output.trans h.wr.output, Nat.le_trans h.wr.size hs, fun k hk hne => (hB.block k (by have := h.hN; have := h.hn; omega)).trans (h.wr.block k hk hne)⟩
end
set_option maxHeartbeats 1000000 in
set_option maxRecDepth 100000 in
/-- l3Two, and where what it lays lies. -/
theorem l3Two_at (k : Int) (x y : X) (lo : Nat) (w : World) (u v : Value) (hu : EV w lo x.l u) (hv : EV w lo y.l v) : Calls Tryz.prog 107 #[.int .i64 k, .agg (xcells x u).toArray, .agg (xcells y v).toArray] w fun e w' => ∃ g, e = .returned (.agg (xcells ⟨⟨k, 0, ⟨#[]⟩⟩, .node 0 0 x.h x.l (.node 0 0 y.h y.l .nil)⟩ (.slice (some ⟨g, 0, Option.none⟩) 2 2)).toArray) ∧ w.heap.size ≤ g ∧ w'.rangeAt g 0 (xcells x u ++ xcells y v) ∧ Below w.heap.size w w' := by
  show Calls Tryz.prog 107 #[.int .i64 k, .agg #[.int .i64 x.h.k, .int .i64 x.h.n, .string x.h.s, u], .agg #[.int .i64 y.h.k, .int .i64 y.h.n, .string y.h.s, v]] w _
  obtain ⟨ua, uc, rfl⟩ := hu.shape
  obtain ⟨va, vc, rfl⟩ := hv.shape
  clear hu hv
  go_enter Tryz.func107, Tryz.ntmps107
  go_wp2
  have hb := (((alloc_below w (.cells #[.int .i64 x.h.k, .int .i64 x.h.n, .string x.h.s, .slice ua (elen x.l) uc] 33)).alloc (by simp) (.cells #[.int .i64 y.h.k, .int .i64 y.h.n, .string y.h.s, .slice va (elen y.l) vc] 33)).alloc (by simp; omega) (.cells #[.int .i64 k, .int .i64 0, .string ⟨#[]⟩, .slice (some ⟨w.heap.size + 1 + 1 + 1, 0, Option.none⟩) 2 2] 33)).alloc (by simp; omega) (.cells (xcells x (.slice ua (elen x.l) uc) ++ xcells y (.slice va (elen y.l) vc)).toArray 33)
  refine bodyPost_ret (v := .agg #[.int .i64 k, .int .i64 0, .string ⟨#[]⟩, .slice (some ⟨w.heap.size + 1 + 1 + 1, 0, Option.none⟩) 2 2]) (by simp [results, Tryz.results107, go_sem]) rfl ⟨_, rfl, by omega, last_range _ _ _ _ (by simp), hb⟩
theorem okOdd : ∀ z ∈ ([-1, 999999, 1000000] : List Int), True := fun _ _ => trivial
theorem okWords : ∀ z ∈ ([⟨#[]⟩, ⟨#[102, 111, 114]⟩, ⟨#[120]⟩] : List ByteArray), z.size ≤ 3 := by decide
def limA : Nat := 300
end Go.Proofs.YtkhccpjkajhnpaaGreatDoor
/-
  The contract of l3CopyExp: the same expression in memory of its own.
-/
namespace Go.Proofs.YtkhccpjkajhnpaaGreatDoor
open Go.RowKit Go.Lib
set_option linter.unusedSimpArgs false
set_option linter.unusedVariables false

def ERx (g : Nat) (w : World) (lo : Nat) : EF → List Value → Prop
  | .nil, xs => xs = []
  | .node _ _ h l r, xs => ∃ v ys, xs = .int .i64 h.k :: .int .i64 h.n :: .string h.s :: v :: ys ∧ EVx g w lo l v ∧ ERx g w lo r ys
theorem ERx.row {g lo : Nat} {w : World} : ∀ {F : EF} {xs : List Value}, ERx g w lo F xs → ERow w lo F xs
  | .nil, _, h => h
  | .node _ _ _ _ r, _, ⟨v, ys, e, hv, h⟩ => ⟨v, ys, e, hv.ev, ERx.row h⟩
theorem ERx.step {g g' lo : Nat} {w w' : World} (hs : ∀ (F : EF) (v : Value), EVx g w lo F v → EVx g' w' lo F v) : ∀ {F : EF} {xs : List Value}, ERx g w lo F xs → ERx g' w' lo F xs
  | .nil, _, h => h
  | .node _ _ _ l r, _, ⟨v, ys, e, hv, h⟩ => ⟨v, ys, e, hs l v hv, ERx.step hs h⟩
theorem ERx.app {g lo : Nat} {w : World} : ∀ {P R : EF} {xs ys : List Value}, ERx g w lo P xs → ERx g w lo R ys → ERx g w lo (eapp P R) (xs ++ ys)
  | .nil, _, _, _, h, k => by rw [show _ = [] from h]; exact k
  | .node _ _ _ _ r, _, _, _, ⟨v, zs, e, hv, h⟩, k => ⟨v, _, by rw [e]; rfl, hv, ERx.app h k⟩
theorem EVx.later {g lo : Nat} {w w' : World} {F : EF} {v : Value} (h : EVx g w lo F v) (hb : Below w.heap.size w w') : EVx g w' lo F v := h.step fun a u _ _ hc => keeps hb hc
theorem EVx.fresh {g lo lo' : Nat} {w : World} {F : EF} {v : Value} (h : EV w lo' F v) (hl : lo ≤ lo') (hg : g < lo') : EVx g w lo F v := fun W hW => h.same hl fun a u h1 hc => hW a u (by omega) (by omega) hc
/-- The row's block, where there is one. -/
def gOf (t : Value) : Nat := (t.ownBlock).getD 0
theorem EVx.grow {g' lo : Nat} {w w' : World} {t : Value} {F : EF} {v : Value} (h : EVx (gOf t) w lo F v) (hl : 0 < lo) (hg : w.grownBy w' t.ownBlock) (hat : t.ownBlock = some g' ∨ w.heap.size ≤ g') : EVx g' w' lo F v := fun W hW => h W fun a u h1 h2 hc => by
  have hlt := lt_of_cellA hc
  have hne : some a.block ≠ t.ownBlock := by
    intro e
    apply h2
    unfold gOf
    rw [← e]; rfl
  have hb := hg.block a.block hlt hne
  refine hW a u h1 ?_ (by rw [World.cell?_of_block hb]; exact hc)
  rcases hat with e | e
  · intro e2; exact hne (by rw [e, e2])
  · omega
theorem there_grown {w w6 : World} {r : Option Nat} {n o m : Nat} (h : w.there n o m) (hg : w.grownBy w6 r) (hne : r ≠ some n) : w6.there n o m := fun j hj => by
  obtain ⟨h1, h2⟩ := h j hj
  obtain ⟨u, hu⟩ := Option.isSome_iff_exists.1 h1
  have e := hg.block n (lt_of_cellA hu) (fun e => hne e.symm)
  refine ⟨by rw [World.cell?_of_block (a := ⟨n, o + j, Option.none⟩) e, hu]; rfl, ?_⟩
  unfold World.frozen? at h2 ⊢
  simp only [e]
  exact h2
/-- What a copy knows between two rounds: the box at N, the place of the answer at N + 1, the copy at N + 2, its row above. -/
structure Cpy (w0 : World) (N : Nat) (x : X) (v t : Value) (P : EF) (xs : List Value) (w : World) : Prop where
  box : w.rangeAt N 0 (xcells x v)
  th1 : w.there (N + 1) 0 4
  th2 : w.there (N + 2) 0 4
  var : w.rangeAt (N + 2) 0 (xcells ⟨x.h, P⟩ t)
  own : w.ownsRow (N + 3) 33 4 t (elen P) xs
  row : ERx (gOf t) w (N + 3) P xs
  low : Below w0.heap.size w0 w
  hN : w0.heap.size = N
  sz : N + 3 ≤ w.heap.size
theorem Cpy.later {w0 w w' : World} {N : Nat} {x : X} {v t : Value} {P : EF} {xs : List Value} (c : Cpy w0 N x v t P xs w) (hb : Below w.heap.size w w') : Cpy w0 N x v t P xs w' :=
  ⟨rangeAt_later c.box hb, there_later c.th1 hb, there_later c.th2 hb, rangeAt_later c.var hb, ownB c.own hb, c.row.step (fun _ _ h => h.later hb), c.low.trans (hb.mono c.low.size), c.hN, Nat.le_trans c.sz hb.size⟩
theorem own_ge {w : World} {B sz n : Nat} {e : TypeId} {t : Value} {xs : List Value} (h : w.ownsRow B e sz t n xs) : ∀ g, t.ownBlock = some g → B ≤ g ∧ g < w.heap.size := fun g hg => h.lt g hg
/-- One more behind those that are copied. -/
theorem Cpy.next {w0 w w6 : World} {N g cap p q : Nat} {x : X} {v t u : Value} {P : EF} {xs : List Value} {h : EH} {l : EF} (c : Cpy w0 N x v t P xs w) (he : EVx (gOf t) w (N + 3) l u)
    (hown : w6.ownsRow (N + 3) 33 4 (.slice (some ⟨g, 0, Option.none⟩) (elen P + 1) cap) (elen P + 1) (xs ++ xcells ⟨h, l⟩ u)) (hg : w.grownBy w6 t.ownBlock) (hat : t.ownBlock = some g ∨ w.heap.size ≤ g) :
    Cpy w0 N x v (.slice (some ⟨g, 0, Option.none⟩) (elen P + 1) cap) (eapp P (.node p q h l .nil)) (xs ++ xcells ⟨h, l⟩ u) (w6.setCell ⟨N + 2, 3, Option.none⟩ (.slice (some ⟨g, 0, Option.none⟩) (elen P + 1) cap)) := by
  have hne : ∀ k, k < N + 3 → t.ownBlock ≠ some k := fun k hk e => by have := (own_ge c.own k e).1; omega
  have hg3 : N + 3 ≤ g := by rcases hat with e | e; exact (own_ge c.own g e).1; exact Nat.le_trans c.sz e
  have e1 : w6.setCell ⟨N + 2, 3, Option.none⟩ (.slice (some ⟨g, 0, Option.none⟩) (elen P + 1) cap) = w6.setCells (N + 2) 3 [.slice (some ⟨g, 0, Option.none⟩) (elen P + 1) cap] := rfl
  have th6 := there_grown c.th2 hg (hne _ (by omega))
  have hb6 : Below w0.heap.size w0 w6 := c.low.grown hg c.low.size (fun k hk => by have := (own_ge c.own k hk).1; have := c.hN; omega)
  have hel : elen (eapp P (.node p q h l .nil)) = elen P + 1 := by rw [elen_app]; rfl
  have hx6 : ∀ (F : EF) (z : Value), EVx (gOf t) w (N + 3) F z → EVx g (w6.setCells (N + 2) 3 [.slice (some ⟨g, 0, Option.none⟩) (elen P + 1) cap]) (N + 3) F z := fun F z hz => (hz.grow (by omega) hg hat).step fun a y h1 _ hc => Keeps.sets w6 (show N + 2 < N + 3 by omega) _ _ a y h1 hc
  rw [e1]
  refine ⟨World.rangeAt_setCells_apart (range_grown c.box hg (hne _ (by omega))) _ _ _ (.inl (by omega)), World.there_setCells (there_grown c.th1 hg (hne _ (by omega))) _ _ _, World.there_setCells th6 _ _ _, ?_, ?_, ?_, below_sets _ _ hb6 (by have := c.hN; omega), c.hN, ?_⟩
  · have hv := range_grown c.var hg (hne _ (by omega))
    have h1 : w6.rangeAt (N + 2) 0 [.int .i64 x.h.k, .int .i64 x.h.n, .string x.h.s] := by have := rangeAt_part (ds := []) (es := [.int .i64 x.h.k, .int .i64 x.h.n, .string x.h.s]) hv rfl; exact this
    exact rangeAt_app (cs := [.int .i64 x.h.k, .int .i64 x.h.n, .string x.h.s]) (World.rangeAt_setCells_apart h1 _ _ _ (.inr (.inl (by simp)))) (World.rangeAt_setCells_same _ _ _ _ (there_part th6 3 1 (by omega)))
  · rw [hel]
    refine ⟨hown.1, ?_⟩
    rcases hown.2 with ⟨h0, _⟩ | ⟨g', cap', cur, h1, h2, h3, h4⟩
    · cases h0
    · refine .inr ⟨g', cap', cur, h1, h2, ?_, h4⟩
      rw [← e1, Below.heap_setCell _ _ _ _ (fun e => by have e' : g' = N + 2 := e; omega)]
      exact h3
  · have h1 := c.row.step hx6
    exact h1.app ⟨u, [], rfl, hx6 l u he, rfl⟩
  · rw [size_sets]; exact Nat.le_trans c.sz hg.size
end Go.Proofs.YtkhccpjkajhnpaaGreatDoor
