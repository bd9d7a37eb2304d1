import Derived.Test.YtpinockfakndlaaGreatZp
import Derived.Test.YtpinockfakndlaaGreatParRead
import Derived.Test.YtpinockfakndlaaGreatP04ofFnEvals
import Derived.Test.YtpinockfakndlaaGreatP05ofFnEvals
set_option maxHeartbeats 2000000
set_option maxRecDepth 100000
namespace Go.Proofs.YtpinockfakndlaaGreat
open Go.RowKit Go.Lib
set_option linter.unusedSimpArgs false
set_option linter.unusedVariables false
def l5NumOut (ts : List T) (p : Nat) (R : Bool) (e : Ending) : Prop := (R = true ∧ ∃ t, ts[p]? = some t ∧ e = .returned (.int .i64 t.n)) ∨ (R = false ∧ e = .returned (.int .i64 0))
def l5NameOut (ts : List T) (p : Nat) (R : Bool) (e : Ending) : Prop := (R = true ∧ ∃ t, ts[p]? = some t ∧ e = .returned (.string (bs t.s))) ∨ (R = false ∧ e = .returned (.string ⟨#[]⟩))
theorem l5Num_is (b : Nat) (v : Value) (ts : List T) (p : Nat) (deep : Int) (bad : Bool) (R : Bool) (hR : kindR bad 2 (ts.drop p) = R) (w : World) (st : Rd5 b v ts p deep bad w) :
    Calls Tryz.prog 92 #[.pointer (some ⟨b, 0, none⟩)] w fun e w' => l5NumOut ts p R e ∧ Rd5 b v ts (p + R.toNat) deep (bad || !R) w' ∧ Wr b w w' := by
  have S := hid st
  have hts := st.hts
  have CK := hid (l5Kind_is b v ts p deep bad 2 R hR w st)
  have HK := hid hR
  clear hR st
  cases R with
  | false =>
    go_enter Tryz.func92, Tryz.ntmps92
    go_wp2_with fail
    refine CK.out.mono ?_
    rintro e w2 ⟨rfl, hb2⟩
    have S2 := hid (S.out.later hb2)
    have B2 := hid hb2
    clear hb2 CK
    have q3 := S2.out.cells.2.2.2
    have q3f := S2.out.free 3 (by omega)
    have S4 : Hid (Rd5 b v ts p deep true (w2.setCell ⟨b, 3, Option.none⟩ (.bool true))) := hid (S2.out.setBad true)
    have WW := hid ((Wr.of_below (b := b) B2.out).trans (S2.out.wset 3 (.bool true)))
    go_wp2
    go_ret
    exact ⟨.inr ⟨rfl, rfl⟩, by rw [Bool.not_false, Bool.or_true]; exact S4.out, WW.out⟩
  | true =>
    obtain ⟨rfl, t, ht, hk, hlt⟩ := kindR_true HK.out
    have hltI : (p : Int) < (ts.length : Int) := by omega
    have hp0 : (0 : Int) ≤ (p : Int) := by omega
    obtain ⟨g, c, rfl, _, _, _⟩ := S.out.row.at ht
    have HT := hid ht
    clear ht hk HK
    go_enter Tryz.func92, Tryz.ntmps92
    go_wp2_with fail
    refine CK.out.mono ?_
    rintro e w2 ⟨rfl, hb2⟩
    have S2 := hid (S.out.later hb2)
    have B2 := hid hb2
    clear hb2 CK
    have q1 := S2.out.cells.2.1
    have q1f := S2.out.free 1 (by omega)
    have hw : IntKind.i64.wrap ((p : Int) + 1) = (p : Int) + 1 := wrap_small _ (by omega) (by omega)
    go_wp2_with fail
    obtain ⟨W4, HW4⟩ : ∃ W, Hid (w2.setCell ⟨b, 1, Option.none⟩ (.int .i64 ((p : Int) + 1)) = W) := ⟨_, hid rfl⟩
    have S4 : Hid (Rd5 b (.slice (some ⟨g, 0, Option.none⟩) ts.length c) ts (p + 1) deep false W4) := hid (by rw [← HW4.out]; exact S2.out.setAt (p + 1) (by omega))
    have WW : Hid (Wr b w W4) := hid (by rw [← HW4.out]; exact (Wr.of_below (b := b) B2.out).trans (S2.out.wset 1 (.int .i64 ((p : Int) + 1))))
    obtain ⟨g', c', hvv, c0, c1, c2⟩ := S4.out.row.at HT.out
    injection hvv with e1 e2 e3
    injection e1 with e1
    injection e1 with e1
    subst e1
    have C0 := hid c0
    have C1 := hid c1
    have C2 := hid c2
    have bd : Below W4.heap.size W4 W4.drew := (Below.refl _ W4).drew
    have hw2 : IntKind.i64.wrap ((p : Int) + 1 - 1) = (p : Int) := by rw [show (p : Int) + 1 - 1 = (p : Int) by omega]; exact wrap_small _ (by omega) (by omega)
    have hw3 : IntKind.i64.wrap (p : Int) = (p : Int) := wrap_small _ (by omega) (by omega)
    clear c0 c1 c2 q1 q1f e2 e3
    rw [show w2.setCell ⟨b, 1, Option.none⟩ (.int .i64 ((p : Int) + 1)) = W4 from HW4.out]
    clear HW4
    refine wp_region_held_drew (S := Below W4.heap.size W4) (by kernel_rfl) bd (fun hHeld => ?_)
    refine wpAnyH_take (i := 0) (v := .pointer (some ⟨b, 0, Option.none⟩)) rfl (by kernel_rfl) (by kernel_rfl) (by kernel_rfl) (fun _ _ _ => id) (Or.inl ⟨by rfl, ?yx0⟩) hHeld ?_
    case yx0 => intro w hSw; go_simp
    simp only [Act.put, zp]
    refine wpAnyH_take (i := 1) (v := .pointer (some ⟨b, 0, Option.none⟩)) rfl (by kernel_rfl) (by kernel_rfl) (by kernel_rfl) (fun _ _ _ => id) (Or.inl ⟨by rfl, ?yx1⟩) hHeld ?_
    case yx1 => intro w hSw; go_simp
    simp only [Act.put, zp]
    refine wpAnyH_take (i := 2) (v := .pointer (some ⟨b, 0, Option.none⟩)) rfl (by kernel_rfl) (by kernel_rfl) (by kernel_rfl) (fun _ _ _ => id) (Or.inl ⟨by rfl, ?yx2⟩) hHeld ?_
    case yx2 => intro w hSw; go_simp
    simp only [Act.put, zp]
    refine wpAnyH_take (i := 3) (v := .slice (some ⟨g, 0, Option.none⟩) ts.length c) rfl (by kernel_rfl) (by kernel_rfl) (by kernel_rfl) (fun _ _ _ => id) (Or.inl ⟨by rfl, ?yx3⟩) hHeld ?_
    case yx3 => intro w hSw; have q := (S4.out.later hSw).cells; have q0 := q.1; have q1 := q.2.1; have q2 := q.2.2.1; have q3 := q.2.2.2; go_simp
    simp only [Act.put, zp]
    refine wpAnyH_take (i := 4) (v := .pointer (some ⟨b, 0, Option.none⟩)) rfl (by kernel_rfl) (by kernel_rfl) (by kernel_rfl) (fun _ _ _ => id) (Or.inl ⟨by rfl, ?yx4⟩) hHeld ?_
    case yx4 => intro w hSw; go_simp
    simp only [Act.put, zp]
    refine wpAnyH_take (i := 5) (v := .pointer (some ⟨b, 0, Option.none⟩)) rfl (by kernel_rfl) (by kernel_rfl) (by kernel_rfl) (fun _ _ _ => id) (Or.inl ⟨by rfl, ?yx5⟩) hHeld ?_
    case yx5 => intro w hSw; go_simp
    simp only [Act.put, zp]
    refine wpAnyH_take (i := 6) (v := .pointer (some ⟨b, 1, Option.none⟩)) rfl (by kernel_rfl) (by kernel_rfl) (by kernel_rfl) (fun _ _ _ => id) (Or.inl ⟨by rfl, ?yx6⟩) hHeld ?_
    case yx6 => intro w hSw; go_simp
    simp only [Act.put, zp]
    refine wpAnyH_take (i := 7) (v := .int .i64 ((p : Int) + 1)) rfl (by kernel_rfl) (by kernel_rfl) (by kernel_rfl) (fun _ _ _ => id) (Or.inl ⟨by rfl, ?yx7⟩) hHeld ?_
    case yx7 => intro w hSw; have q := (S4.out.later hSw).cells; have q0 := q.1; have q1 := q.2.1; have q2 := q.2.2.1; have q3 := q.2.2.2; go_simp
    simp only [Act.put, zp]
    refine wpAnyH_take (i := 8) (v := .int .i64 (p : Int)) rfl (by kernel_rfl) (by kernel_rfl) (by kernel_rfl) (fun _ _ _ => id) (Or.inl ⟨by rfl, ?yx8⟩) hHeld ?_
    case yx8 => intro w hSw; go_simp
    simp only [Act.put, zp]
    refine wpAnyH_take (i := 9) (v := .pointer (some ⟨g, p * 3, Option.none⟩)) rfl (by kernel_rfl) (by kernel_rfl) (by kernel_rfl) (fun _ _ _ => id) (Or.inl ⟨by rfl, ?yx9⟩) hHeld ?_
    case yx9 => intro w hSw; go_simp
    simp only [Act.put, zp]
    refine wpAnyH_take (i := 10) (v := .pointer (some ⟨g, p * 3 + 2, Option.none⟩)) rfl (by kernel_rfl) (by kernel_rfl) (by kernel_rfl) (fun _ _ _ => id) (Or.inl ⟨by rfl, ?yx10⟩) hHeld ?_
    case yx10 => intro w hSw; go_simp
    simp only [Act.put, zp]
    refine wpAnyH_take (i := 11) (v := .int .i64 t.n) rfl (by kernel_rfl) (by kernel_rfl) (by kernel_rfl) (fun _ _ _ => id) (Or.inl ⟨by rfl, ?yx11⟩) hHeld ?_
    case yx11 => intro w hSw; have q0 := keeps hSw C0.out; have q1 := keeps hSw C1.out; have q2 := keeps hSw C2.out; go_simp
    simp only [Act.put, zp]
    refine wpAnyH_take (i := 12) (v := .int .i64 t.n) rfl (by kernel_rfl) (by kernel_rfl) (by kernel_rfl) (fun _ _ _ => id) (Or.inl ⟨by rfl, ?yx12⟩) hHeld ?_
    case yx12 => intro w hSw; go_simp
    simp only [Act.put, zp]
    refine wpAnyH_done (by kernel_rfl) ?_ _
    have B := hid hHeld
    clear hHeld bd
    go_wp2
    go_ret
    exact ⟨.inl ⟨rfl, t, HT.out, rfl⟩, S4.out.later B.out, WW.out.trans (.of_below B.out)⟩
theorem l5Name_is (b : Nat) (v : Value) (ts : List T) (p : Nat) (deep : Int) (bad : Bool) (R : Bool) (hR : kindR bad 1 (ts.drop p) = R) (w : World) (st : Rd5 b v ts p deep bad w) :
    Calls Tryz.prog 91 #[.pointer (some ⟨b, 0, none⟩)] w fun e w' => l5NameOut ts p R e ∧ Rd5 b v ts (p + R.toNat) deep (bad || !R) w' ∧ Wr b w w' := by
  have S := hid st
  have hts := st.hts
  have CK := hid (l5Kind_is b v ts p deep bad 1 R hR w st)
  have HK := hid hR
  clear hR st
  cases R with
  | false =>
    go_enter Tryz.func91, Tryz.ntmps91
    go_wp2_with fail
    refine CK.out.mono ?_
    rintro e w2 ⟨rfl, hb2⟩
    have S2 := hid (S.out.later hb2)
    have B2 := hid hb2
    clear hb2 CK
    have q3 := S2.out.cells.2.2.2
    have q3f := S2.out.free 3 (by omega)
    have S4 : Hid (Rd5 b v ts p deep true (w2.setCell ⟨b, 3, Option.none⟩ (.bool true))) := hid (S2.out.setBad true)
    have WW := hid ((Wr.of_below (b := b) B2.out).trans (S2.out.wset 3 (.bool true)))
    go_wp2
    go_ret
    exact ⟨.inr ⟨rfl, rfl⟩, by rw [Bool.not_false, Bool.or_true]; exact S4.out, WW.out⟩
  | true =>
    obtain ⟨rfl, t, ht, hk, hlt⟩ := kindR_true HK.out
    have hltI : (p : Int) < (ts.length : Int) := by omega
    have hp0 : (0 : Int) ≤ (p : Int) := by omega
    obtain ⟨g, c, rfl, _, _, _⟩ := S.out.row.at ht
    have HT := hid ht
    clear ht hk HK
    go_enter Tryz.func91, Tryz.ntmps91
    go_wp2_with fail
    refine CK.out.mono ?_
    rintro e w2 ⟨rfl, hb2⟩
    have S2 := hid (S.out.later hb2)
    have B2 := hid hb2
    clear hb2 CK
    have q1 := S2.out.cells.2.1
    have q1f := S2.out.free 1 (by omega)
    have hw : IntKind.i64.wrap ((p : Int) + 1) = (p : Int) + 1 := wrap_small _ (by omega) (by omega)
    go_wp2_with fail
    obtain ⟨W4, HW4⟩ : ∃ W, Hid (w2.setCell ⟨b, 1, Option.none⟩ (.int .i64 ((p : Int) + 1)) = W) := ⟨_, hid rfl⟩
    have S4 : Hid (Rd5 b (.slice (some ⟨g, 0, Option.none⟩) ts.length c) ts (p + 1) deep false W4) := hid (by rw [← HW4.out]; exact S2.out.setAt (p + 1) (by omega))
    have WW : Hid (Wr b w W4) := hid (by rw [← HW4.out]; exact (Wr.of_below (b := b) B2.out).trans (S2.out.wset 1 (.int .i64 ((p : Int) + 1))))
    obtain ⟨g', c', hvv, c0, c1, c2⟩ := S4.out.row.at HT.out
    injection hvv with e1 e2 e3
    injection e1 with e1
    injection e1 with e1
    subst e1
    have C0 := hid c0
    have C1 := hid c1
    have C2 := hid c2
    have bd : Below W4.heap.size W4 W4.drew := (Below.refl _ W4).drew
    have hw2 : IntKind.i64.wrap ((p : Int) + 1 - 1) = (p : Int) := by rw [show (p : Int) + 1 - 1 = (p : Int) by omega]; exact wrap_small _ (by omega) (by omega)
    have hw3 : IntKind.i64.wrap (p : Int) = (p : Int) := wrap_small _ (by omega) (by omega)
    clear c0 c1 c2 q1 q1f e2 e3
    rw [show w2.setCell ⟨b, 1, Option.none⟩ (.int .i64 ((p : Int) + 1)) = W4 from HW4.out]
    clear HW4
    refine wp_region_held_drew (S := Below W4.heap.size W4) (by kernel_rfl) bd (fun hHeld => ?_)
    refine wpAnyH_take (i := 0) (v := .pointer (some ⟨b, 0, Option.none⟩)) rfl (by kernel_rfl) (by kernel_rfl) (by kernel_rfl) (fun _ _ _ => id) (Or.inl ⟨by rfl, ?yx0⟩) hHeld ?_
    case yx0 => intro w hSw; go_simp
    simp only [Act.put, zp]
    refine wpAnyH_take (i := 1) (v := .pointer (some ⟨b, 0, Option.none⟩)) rfl (by kernel_rfl) (by kernel_rfl) (by kernel_rfl) (fun _ _ _ => id) (Or.inl ⟨by rfl, ?yx1⟩) hHeld ?_
    case yx1 => intro w hSw; go_simp
    simp only [Act.put, zp]
    refine wpAnyH_take (i := 2) (v := .pointer (some ⟨b, 0, Option.none⟩)) rfl (by kernel_rfl) (by kernel_rfl) (by kernel_rfl) (fun _ _ _ => id) (Or.inl ⟨by rfl, ?yx2⟩) hHeld ?_
    case yx2 => intro w hSw; go_simp
    simp only [Act.put, zp]
    refine wpAnyH_take (i := 3) (v := .slice (some ⟨g, 0, Option.none⟩) ts.length c) rfl (by kernel_rfl) (by kernel_rfl) (by kernel_rfl) (fun _ _ _ => id) (Or.inl ⟨by rfl, ?yx3⟩) hHeld ?_
    case yx3 => intro w hSw; have q := (S4.out.later hSw).cells; have q0 := q.1; have q1 := q.2.1; have q2 := q.2.2.1; have q3 := q.2.2.2; go_simp
    simp only [Act.put, zp]
    refine wpAnyH_take (i := 4) (v := .pointer (some ⟨b, 0, Option.none⟩)) rfl (by kernel_rfl) (by kernel_rfl) (by kernel_rfl) (fun _ _ _ => id) (Or.inl ⟨by rfl, ?yx4⟩) hHeld ?_
    case yx4 => intro w hSw; go_simp
    simp only [Act.put, zp]
    refine wpAnyH_take (i := 5) (v := .pointer (some ⟨b, 0, Option.none⟩)) rfl (by kernel_rfl) (by kernel_rfl) (by kernel_rfl) (fun _ _ _ => id) (Or.inl ⟨by rfl, ?yx5⟩) hHeld ?_
    case yx5 => intro w hSw; go_simp
    simp only [Act.put, zp]
    refine wpAnyH_take (i := 6) (v := .pointer (some ⟨b, 1, Option.none⟩)) rfl (by kernel_rfl) (by kernel_rfl) (by kernel_rfl) (fun _ _ _ => id) (Or.inl ⟨by rfl, ?yx6⟩) hHeld ?_
    case yx6 => intro w hSw; go_simp
    simp only [Act.put, zp]
    refine wpAnyH_take (i := 7) (v := .int .i64 ((p : Int) + 1)) rfl (by kernel_rfl) (by kernel_rfl) (by kernel_rfl) (fun _ _ _ => id) (Or.inl ⟨by rfl, ?yx7⟩) hHeld ?_
    case yx7 => intro w hSw; have q := (S4.out.later hSw).cells; have q0 := q.1; have q1 := q.2.1; have q2 := q.2.2.1; have q3 := q.2.2.2; go_simp
    simp only [Act.put, zp]
    refine wpAnyH_take (i := 8) (v := .int .i64 (p : Int)) rfl (by kernel_rfl) (by kernel_rfl) (by kernel_rfl) (fun _ _ _ => id) (Or.inl ⟨by rfl, ?yx8⟩) hHeld ?_
    case yx8 => intro w hSw; go_simp
    simp only [Act.put, zp]
    refine wpAnyH_take (i := 9) (v := .pointer (some ⟨g, p * 3, Option.none⟩)) rfl (by kernel_rfl) (by kernel_rfl) (by kernel_rfl) (fun _ _ _ => id) (Or.inl ⟨by rfl, ?yx9⟩) hHeld ?_
    case yx9 => intro w hSw; go_simp
    simp only [Act.put, zp]
    refine wpAnyH_take (i := 10) (v := .pointer (some ⟨g, p * 3 + 1, Option.none⟩)) rfl (by kernel_rfl) (by kernel_rfl) (by kernel_rfl) (fun _ _ _ => id) (Or.inl ⟨by rfl, ?yx10⟩) hHeld ?_
    case yx10 => intro w hSw; go_simp
    simp only [Act.put, zp]
    refine wpAnyH_take (i := 11) (v := .string (bs t.s)) rfl (by kernel_rfl) (by kernel_rfl) (by kernel_rfl) (fun _ _ _ => id) (Or.inl ⟨by rfl, ?yx11⟩) hHeld ?_
    case yx11 => intro w hSw; have q0 := keeps hSw C0.out; have q1 := keeps hSw C1.out; have q2 := keeps hSw C2.out; go_simp
    simp only [Act.put, zp]
    refine wpAnyH_take (i := 12) (v := .string (bs t.s)) rfl (by kernel_rfl) (by kernel_rfl) (by kernel_rfl) (fun _ _ _ => id) (Or.inl ⟨by rfl, ?yx12⟩) hHeld ?_
    case yx12 => intro w hSw; go_simp
    simp only [Act.put, zp]
    refine wpAnyH_done (by kernel_rfl) ?_ _
    have B := hid hHeld
    clear hHeld bd
    go_wp2
    go_ret
    exact ⟨.inl ⟨rfl, t, HT.out, rfl⟩, S4.out.later B.out, WW.out.trans (.of_below B.out)⟩
end Go.Proofs.YtpinockfakndlaaGreat
namespace Go.Proofs.YtpinockfakndlaaGreat
set_option linter.unusedSimpArgs false
set_option linter.unusedVariables false
theorem good_cases {t : T} (h : Good t) : (t.k = 3 ∧ t.s ∈ keptL) ∨ (t.k = 1 ∧ t.s ∉ keptL ∧ (∀ c ∈ t.s, kind c = 1) ∧ t.s ≠ []) ∨ (t.k = 2 ∧ t.s = []) ∨ (t.k = 4 ∧ ∃ c, t.s = [c] ∧ kind c = 3) := by
  obtain ⟨k, p, hk, hne, hall, hgo, ht⟩ := h
  unfold tok at ht
  rcases hk with rfl | rfl | rfl
  · rw [if_pos rfl] at ht
    split at ht
    · rename_i hm; injection ht with ht; subst ht; exact .inl ⟨rfl, hm⟩
    · rename_i hm
      split at ht
      · injection ht with ht; subst ht; exact .inr (.inl ⟨rfl, hm, hall, hne⟩)
      · cases ht
  · rw [if_neg (by omega), if_pos rfl] at ht
    split at ht
    · split at ht
      · injection ht with ht; subst ht; exact .inr (.inr (.inl ⟨rfl, rfl⟩))
      · cases ht
    · cases ht
  · rw [if_neg (by omega), if_neg (by omega), if_pos rfl] at ht
    injection ht with ht
    subst ht
    refine .inr (.inr (.inr ⟨rfl, ?_⟩))
    rcases hgo with hgo | hgo
    · simp [goes] at hgo
    · match p, hgo with
      | [c], _ => exact ⟨c, rfl, hall c (by simp)⟩
theorem kept_kind : ∀ s ∈ keptL, s ≠ [] ∧ ∀ c ∈ s, kind c = 1 := by decide
theorem good_mark {t : T} (h : Good t) {c : UInt8} (hc : kind c = 3) (e : t.s = [c]) : t.k = 4 := by
  rcases good_cases h with ⟨_, hm⟩ | ⟨_, _, hall, _⟩ | ⟨_, hs⟩ | ⟨hk, _⟩
  · have := (kept_kind t.s hm).2 c (by rw [e]; simp)
    omega
  · have := hall c (by rw [e]; simp)
    omega
  · rw [hs] at e; cases e
  · exact hk
theorem good_kept {t : T} (h : Good t) (hm : t.s ∈ keptL) : t.k = 3 := by
  rcases good_cases h with ⟨hk, _⟩ | ⟨_, hn, _⟩ | ⟨_, hs⟩ | ⟨_, c, hs, hc⟩
  · exact hk
  · exact absurd hm hn
  · exact absurd hs (kept_kind t.s hm).1
  · have := (kept_kind t.s hm).2 c (by rw [hs]; simp)
    omega
theorem mark_eat {c : UInt8} (hc : kind c = 3) (bad : Bool) : ∀ (l : List T), (∀ t ∈ l, Good t) → isR bad 4 [c] l = (!bad && (eat [c] l).isSome)
  | [], _ => by cases bad <;> rfl
  | t :: r, hl => by
    have hg := hl t (by simp)
    by_cases e : t.s = [c]
    · have hk := good_mark hg hc e
      cases bad <;> simp [isR, kindR, eat, e, hk]
    · cases bad <;> simp [isR, kindR, eat, e]
theorem kept_eat {s : List UInt8} (hs : s ∈ keptL) (bad : Bool) : ∀ (l : List T), (∀ t ∈ l, Good t) → isR bad 3 s l = (!bad && (eat s l).isSome)
  | [], _ => by cases bad <;> rfl
  | t :: r, hl => by
    have hg := hl t (by simp)
    by_cases e : t.s = s
    · have hk := good_kept hg (by rw [e]; exact hs)
      cases bad <;> simp [isR, kindR, eat, e, hk]
    · cases bad <;> simp [isR, kindR, eat, e]
theorem eat_drop {s : List UInt8} {ts : List T} {p : Nat} {r : List T} (h : eat s (ts.drop p) = some r) : r = ts.drop (p + 1) ∧ p < ts.length := by
  obtain ⟨t, e, _⟩ := eat_some h
  have hlt : p < ts.length := by
    by_cases hlt : p < ts.length
    · exact hlt
    · rw [List.drop_of_length_le (by omega)] at e; cases e
  have ht : ts[p]? = some ts[p] := List.getElem?_eq_getElem hlt
  rw [dropT ht] at e
  injection e with _ e
  exact ⟨e.symm, hlt⟩
theorem drop_good {ts : List T} (hG : ∀ t ∈ ts, Good t) (p : Nat) : ∀ t ∈ ts.drop p, Good t := fun t ht => hG t (List.mem_of_mem_drop ht)
def St5 (ts : List T) : Option (List T) → Nat → Bool → Prop
  | some l, p, bad => bad = false ∧ ts.drop p = l
  | none, _, bad => bad = true
def StE5 (ts : List T) : Rest → X → Nat → Bool → Prop
  | some (y, l), x, p, bad => bad = false ∧ x = y ∧ ts.drop p = l
  | none, _, _, bad => bad = true
def from5 (bad : Bool) (l : List T) : Option (List T) := if bad then none else some l
def resB (bad : Bool) (f : List T → Rest) (l : List T) : Rest := if bad then none else f l
theorem St5.start (ts : List T) (p : Nat) (bad : Bool) : St5 ts (from5 bad (ts.drop p)) p bad := by
  cases bad with
  | true => rfl
  | false => exact ⟨rfl, rfl⟩
theorem resB_bind (bad : Bool) (f : List T → Rest) (l : List T) : resB bad f l = (from5 bad l).bind f := by cases bad <;> rfl
theorem St5.mark {ts : List T} (hG : ∀ t ∈ ts, Good t) {c : UInt8} (hc : kind c = 3) {g : Option (List T)} {p : Nat} {bad R : Bool} (h : St5 ts g p bad) (hR : isR bad 4 [c] (ts.drop p) = R) : St5 ts (g.bind (eat [c])) (p + R.toNat) (bad || !R) := by
  rw [mark_eat hc bad _ (drop_good hG p)] at hR
  cases g with
  | none => have h : bad = true := h; subst h; subst hR; rfl
  | some l =>
    obtain ⟨rfl, rfl⟩ := h
    cases he : eat [c] (ts.drop p) with
    | none => rw [he] at hR; subst hR; show St5 ts (eat [c] (ts.drop p)) _ _; rw [he]; rfl
    | some l =>
      rw [he] at hR
      subst hR
      show St5 ts (eat [c] (ts.drop p)) _ _
      rw [he]
      exact ⟨rfl, (eat_drop he).1.symm⟩
theorem St5.kept {ts : List T} (hG : ∀ t ∈ ts, Good t) {s : List UInt8} (hs : s ∈ keptL) {g : Option (List T)} {p : Nat} {bad R : Bool} (h : St5 ts g p bad) (hR : isR bad 3 s (ts.drop p) = R) : St5 ts (g.bind (eat s)) (p + R.toNat) (bad || !R) := by
  rw [kept_eat hs bad _ (drop_good hG p)] at hR
  cases g with
  | none => have h : bad = true := h; subst h; subst hR; rfl
  | some l =>
    obtain ⟨rfl, rfl⟩ := h
    cases he : eat s (ts.drop p) with
    | none => rw [he] at hR; subst hR; show St5 ts (eat s (ts.drop p)) _ _; rw [he]; rfl
    | some l =>
      rw [he] at hR
      subst hR
      show St5 ts (eat s (ts.drop p)) _ _
      rw [he]
      exact ⟨rfl, (eat_drop he).1.symm⟩
theorem St5.sub {ts : List T} {sub : List T → Rest} {g : Option (List T)} {p p' : Nat} {bad bad' : Bool} {x : X} (h : St5 ts g p bad) (hr : StE5 ts (resB bad sub (ts.drop p)) x p' bad') : StE5 ts (g.bind sub) x p' bad' := by
  cases g with
  | none => have h : bad = true := h; subst h; exact hr
  | some l => obtain ⟨rfl, rfl⟩ := h; exact hr
theorem StE5.st {ts : List T} {r : Rest} {x : X} {p : Nat} {bad : Bool} (h : StE5 ts r x p bad) : St5 ts (r.map Prod.snd) p bad := by
  cases r with
  | none => exact h
  | some y => exact ⟨h.1, h.2.2⟩
theorem choice_st {ts : List T} {sub : List T → Rest} {k : Int} {g : Option (List T)} {x1 x2 : X} {p3 p6 p7 : Nat} {b3 b6 b7 : Bool}
    (h1 : StE5 ts ((g.bind (eat [40])).bind sub) x1 p3 b3) (h2 : StE5 ts (((((g.bind (eat [40])).bind sub).map Prod.snd).bind (eat [44])).bind sub) x2 p6 b6)
    (h3 : St5 ts (((((((g.bind (eat [40])).bind sub).map Prod.snd).bind (eat [44])).bind sub).map Prod.snd).bind (eat [41])) p7 b7) : StE5 ts (g.bind (choiceP sub k)) (twoX k x1 x2) p7 b7 := by
  cases g with
  | none => exact h3
  | some l =>
    show StE5 ts (choiceP sub k l) _ _ _
    unfold choiceP
    simp only [Option.bind_some] at h1 h2 h3
    cases e1 : eat [40] l with
    | none => rw [e1] at h3; simp only [e1]; exact h3
    | some l1 =>
      rw [e1] at h1 h2 h3
      simp only [Option.bind_some] at h1 h2 h3
      cases e2 : sub l1 with
      | none => rw [e2] at h3; simp only [e1, e2]; exact h3
      | some y =>
        obtain ⟨a, l2⟩ := y
        rw [e2] at h1 h2 h3
        simp only [Option.map_some, Option.bind_some] at h1 h2 h3
        obtain ⟨_, rfl, _⟩ := h1
        cases e3 : eat [44] l2 with
        | none => rw [e3] at h3; simp only [e1, e2, e3]; exact h3
        | some l3 =>
          rw [e3] at h2 h3
          simp only [Option.bind_some] at h2 h3
          cases e4 : sub l3 with
          | none => rw [e4] at h3; simp only [e1, e2, e3, e4]; exact h3
          | some z =>
            obtain ⟨c, l4⟩ := z
            rw [e4] at h2 h3
            simp only [Option.map_some, Option.bind_some] at h2 h3
            obtain ⟨_, rfl, _⟩ := h2
            cases e5 : eat [41] l4 with
            | none => rw [e5] at h3; simp only [e1, e2, e3, e4, e5]; exact h3
            | some l5 => rw [e5] at h3; simp only [e1, e2, e3, e4, e5]; exact ⟨h3.1, rfl, h3.2⟩
theorem group_st {ts : List T} {sub : List T → Rest} {g : Option (List T)} {x1 : X} {p3 p7 : Nat} {b3 b7 : Bool}
    (h1 : StE5 ts (g.bind sub) x1 p3 b3) (h3 : St5 ts (((g.bind sub).map Prod.snd).bind (eat [41])) p7 b7) : StE5 ts (g.bind (groupP sub)) x1 p7 b7 := by
  cases g with
  | none => exact h3
  | some l =>
    show StE5 ts (groupP sub l) _ _ _
    unfold groupP
    simp only [Option.bind_some] at h1 h3
    cases e2 : sub l with
    | none => rw [e2] at h3; simp only [e2]; exact h3
    | some y =>
      obtain ⟨a, l2⟩ := y
      rw [e2] at h1 h3
      simp only [Option.map_some, Option.bind_some] at h1 h3
      obtain ⟨_, rfl, _⟩ := h1
      cases e3 : eat [41] l2 with
      | none => rw [e3] at h3; simp only [e2, e3]; exact h3
      | some l3 => rw [e3] at h3; simp only [e2, e3]; exact ⟨h3.1, rfl, h3.2⟩
theorem place_st {ts : List T} {sub : List T → Rest} {s : List UInt8} {l l1 : List T} (he : eat [91] l = some l1) {x1 : X} {p3 p7 : Nat} {b3 b7 : Bool}
    (h1 : StE5 ts (sub l1) x1 p3 b3) (h3 : St5 ts (((sub l1).map Prod.snd).bind (eat [93])) p7 b7) : StE5 ts (nameP sub s l) (atX s x1) p7 b7 := by
  unfold nameP
  rw [he]
  cases e2 : sub l1 with
  | none => rw [e2] at h3; simp only [e2]; exact h3
  | some y =>
    obtain ⟨a, l2⟩ := y
    rw [e2] at h1 h3
    simp only [Option.map_some, Option.bind_some] at h1 h3
    obtain ⟨_, rfl, _⟩ := h1
    cases e3 : eat [93] l2 with
    | none => rw [e3] at h3; simp only [e2, e3]; exact h3
    | some l3 => rw [e3] at h3; simp only [e2, e3]; exact ⟨h3.1, rfl, h3.2⟩
end Go.Proofs.YtpinockfakndlaaGreat
namespace Go.Proofs.YtpinockfakndlaaGreat
open Go.RowKit Go.Lib
set_option linter.unusedSimpArgs false
set_option linter.unusedVariables false
structure Got5 (b : Nat) (v : Value) (ts : List T) (deep : Int) (res : Rest) (p : Nat) (w w' : World) (x : X) (u : Value) (p' : Nat) (bad' : Bool) : Prop where
  ev : EV w' w.heap.size x.l u
  rd : Rd5 b v ts p' deep bad' w'
  wr : Wr b w w'
  le : p ≤ p'
  rel : StE5 ts res x p' bad'
def PostE (b : Nat) (v : Value) (ts : List T) (deep : Int) (res : Rest) (p : Nat) (w : World) (e : Ending) (w' : World) : Prop := ∃ (x : X) (u : Value) (p' : Nat) (bad' : Bool), e = .returned (.agg (xC x u).toArray) ∧ Got5 b v ts deep res p w w' x u p' bad'
def SumC (b : Nat) (v : Value) (ts : List T) (d : Nat) : Prop := ∀ (deep : Int), deep = 30 - (d : Int) → ∀ (p : Nat) (bad : Bool) (w : World), Rd5 b v ts p deep bad w → Calls Tryz.prog 135 #[.pointer (some ⟨b, 0, none⟩)] w (PostE b v ts deep (resB bad (sumP d) (ts.drop p)) p w)
theorem le_toNat (p : Nat) (R : Bool) : p ≤ p + R.toNat := Nat.le_add_right _ _
theorem EV.wr5 {b lo : Nat} {w w' : World} {F : EF} {v : Value} (h : EV w lo F v) (hw : Wr b w w') (hlo : b + 1 ≤ lo) : EV w' lo F v := h.same (Nat.le_refl _) fun a u hl hc => wr_keeps hw hc (by omega)
theorem range_wr5 {b n o : Nat} {w w' : World} {cs : List Value} (h : w.rangeAt n o cs) (hw : Wr b w w') (hne : n ≠ b) : w'.rangeAt n o cs := fun j z hj => wr_keeps hw (h j z hj) hne
theorem Got5.close {b : Nat} {v : Value} {ts : List T} {deep : Int} {res : Rest} {p p' : Nat} {bad' : Bool} {w w2 W : World} {x : X} {u : Value} (hb : b < w.heap.size) (th : w2.there w.heap.size 0 4) (he : EV w2 (w.heap.size + 1) x.l u) (hr : Rd5 b v ts p' deep bad' w2) (hw : Wr b w w2) (hle : p ≤ p') (hrel : StE5 ts res x p' bad') (hW : w2.setCells w.heap.size 0 (xC x u) = W) :
    Got5 b v ts deep res p w W x u p' bad' ∧ W.rangeAt w.heap.size 0 (xC x u) := by
  have hk : Keeps (w.heap.size + 1) w2 W := by rw [← hW]; exact Keeps.sets _ (by omega) _ _
  have hB : Below w.heap.size w2 W := by rw [← hW]; exact below_sets _ _ (Below.refl _ _) (Nat.le_refl _)
  have hWr : Wr b w W := ⟨hB.os.trans hw.os, hB.tape.trans hw.tape, hB.output.trans hw.output, Nat.le_trans hw.size hB.size, fun k hk hne => (hB.block k hk).trans (hw.block k hk hne)⟩
  refine ⟨⟨he.same (by omega) hk, ⟨?_, ?_, ?_, hr.hp, hr.hts⟩, hWr, hle, hrel⟩, by rw [← hW]; exact World.rangeAt_setCells_same _ _ _ _ th⟩
  · rw [← hW]; exact World.rangeAt_setCells_apart hr.rg _ _ _ (.inl (by omega))
  · rw [← hW]; exact World.there_setCells hr.th _ _ _
  · obtain ⟨ao, cap, e, h⟩ := hr.row
    refine ⟨ao, cap, e, ?_⟩
    rcases h with h | ⟨g, e2, hg, hc⟩
    · exact .inl h
    · have kc : ∀ (o : Nat) (z : Value), w2.cell? ⟨g, o, Option.none⟩ = some z → W.cell? ⟨g, o, Option.none⟩ = some z := fun o z hz => (hB.cell (p := ⟨g, o, Option.none⟩) (show g < w.heap.size by omega)).trans hz
      exact .inr ⟨g, e2, hg, fun i t hi => ⟨kc _ _ (hc i t hi).1, kc _ _ (hc i t hi).2.1, kc _ _ (hc i t hi).2.2⟩⟩
theorem l5Pair_of (b : Nat) (v : Value) (ts : List T) (hG : ∀ t ∈ ts, Good t) (d : Nat) (deep : Int) (ih : ∀ (p : Nat) (bad : Bool) (w : World), Rd5 b v ts p deep bad w → Calls Tryz.prog 135 #[.pointer (some ⟨b, 0, none⟩)] w (PostE b v ts deep (resB bad (sumP d) (ts.drop p)) p w)) (k : Int) (p : Nat) (bad : Bool) (w : World) (st : Rd5 b v ts p deep bad w) :
    Calls Tryz.prog 175 #[.pointer (some ⟨b, 0, none⟩), .int .i64 k] w (PostE b v ts deep (resB bad (choiceP (sumP d) k) (ts.drop p)) p w) := by
  have Hih := hid ih
  have hbN := st.lt
  have b0 := aB w (.cells zero4 43)
  have S0 := hid (st.later b0)
  have T0 := hid (newthere4 w 43)
  have W0 := hid (Wr.of_below (b := b) b0)
  have G0 := hid (St5.start ts p bad)
  clear ih st b0
  go_enter Tryz.func175, Tryz.ntmps175
  obtain ⟨R1, HR1⟩ : ∃ R, Hid (isR bad 4 [40] (ts.drop p) = R) := ⟨_, rfl⟩
  go_wp2_with fail
  refine (l5Mark_is b v ts p deep bad [40] R1 HR1.out _ S0.out).mono ?_
  rintro e m1 ⟨rfl, s1, h1⟩
  go_wp2_with fail
  refine (l5Must_is b v ts (p + R1.toNat) deep bad R1 _ s1).mono ?_
  rintro e q1 ⟨rfl, s1', h1'⟩
  obtain ⟨p1, Hp1⟩ : ∃ n, Hid (p + R1.toNat = n) := ⟨_, rfl⟩
  obtain ⟨b1, Hb1⟩ : ∃ n, Hid ((bad || !R1) = n) := ⟨_, rfl⟩
  rw [Hp1.out, Hb1.out] at s1'
  have S1 := hid s1'
  have V1 := hid (h1.trans h1')
  have W1 := hid (W0.out.trans (h1.trans h1'))
  have L1 : Hid (p ≤ p1) := hid (by rw [← Hp1.out]; exact le_toNat _ _)
  have G1 := hid (G0.out.mark hG (c := 40) (by decide) HR1.out)
  rw [Hp1.out, Hb1.out] at G1
  clear s1 s1' h1 h1' HR1 Hp1 Hb1
  go_wp2_with fail
  refine (Hih.out p1 b1 _ S1.out).mono ?_
  rintro e n2 ⟨x2, u2, p2, b2, rfl, g2⟩
  have o2 := oneX x2 u2 g2.ev.isOne
  have K2 := hid g2
  clear g2
  go_wp2_with (refine sA rfl 43 _ _ rfl n2.heap.size 0 (xC x2 u2).toArray rfl rfl (newthere4 n2 _) sizeIE2 o2 ?_; intro W hW; have HW2 := hid (newblk4 x2 u2 hW); clear hW)
  obtain ⟨w2, hw2⟩ : ∃ z, W = z := ⟨_, rfl⟩
  rw [hw2] at HW2 ⊢
  clear hw2 W
  obtain ⟨c2, hc2⟩ : ∃ z, Hid (n2.heap.size = z) := ⟨_, rfl⟩
  have hs2 := K2.out.wr.size
  have hl2 : n2.heap.size < w2.heap.size := lt_of_cellA (HW2.out.1 0 _ rfl)
  have S2 := hid (K2.out.rd.later HW2.out.2)
  have W2 := hid ((W1.out.trans K2.out.wr).trans (.of_below HW2.out.2))
  have V2 := hid (K2.out.wr.trans (.of_below (b := b) HW2.out.2))
  have L2 := hid K2.out.le
  have G2 := hid (G1.out.sub K2.out.rel)
  have ws1 := W1.out.size
  have E2 := hid (((K2.out.ev.lower (lo' := w.heap.size + 1) (by have := W0.out.size; have := V1.out.size; simp at this; omega))).later HW2.out.2)
  have R2 := hid HW2.out.1
  have H2 := hid G2.out.st
  obtain ⟨R3, HR3⟩ : ∃ R, Hid (isR b2 4 [44] (ts.drop p2) = R) := ⟨_, rfl⟩
  go_wp2_with fail
  refine (l5Mark_is b v ts p2 deep b2 [44] R3 HR3.out _ S2.out).mono ?_
  rintro e m3 ⟨rfl, s3, h3⟩
  go_wp2_with fail
  refine (l5Must_is b v ts (p2 + R3.toNat) deep b2 R3 _ s3).mono ?_
  rintro e q3 ⟨rfl, s3', h3'⟩
  obtain ⟨p3, Hp3⟩ : ∃ n, Hid (p2 + R3.toNat = n) := ⟨_, rfl⟩
  obtain ⟨b3, Hb3⟩ : ∃ n, Hid ((b2 || !R3) = n) := ⟨_, rfl⟩
  rw [Hp3.out, Hb3.out] at s3'
  have S3 := hid s3'
  have V3 := hid (h3.trans h3')
  have W3 := hid (W2.out.trans (h3.trans h3'))
  have L3 : Hid (p2 ≤ p3) := hid (by rw [← Hp3.out]; exact le_toNat _ _)
  have G3 := hid (H2.out.mark hG (c := 44) (by decide) HR3.out)
  rw [Hp3.out, Hb3.out] at G3
  clear s3 s3' h3 h3' HR3 Hp3 Hb3
  have E3 := hid (E2.out.wr5 V3.out (by omega))
  have R3 := hid (range_wr5 R2.out V3.out (by omega))
  go_wp2_with fail
  refine (Hih.out p3 b3 _ S3.out).mono ?_
  rintro e n4 ⟨x4, u4, p4, b4, rfl, g4⟩
  have o4 := oneX x4 u4 g4.ev.isOne
  have K4 := hid g4
  clear g4
  go_wp2_with (refine sA rfl 43 _ _ rfl n4.heap.size 0 (xC x4 u4).toArray rfl rfl (newthere4 n4 _) sizeIE2 o4 ?_; intro W hW; have HW4 := hid (newblk4 x4 u4 hW); clear hW)
  obtain ⟨w4, hw4⟩ : ∃ z, W = z := ⟨_, rfl⟩
  rw [hw4] at HW4 ⊢
  clear hw4 W
  obtain ⟨c4, hc4⟩ : ∃ z, Hid (n4.heap.size = z) := ⟨_, rfl⟩
  have hs4 := K4.out.wr.size
  have hl4 : n4.heap.size < w4.heap.size := lt_of_cellA (HW4.out.1 0 _ rfl)
  have S4 := hid (K4.out.rd.later HW4.out.2)
  have W4 := hid ((W3.out.trans K4.out.wr).trans (.of_below HW4.out.2))
  have V4 := hid (K4.out.wr.trans (.of_below (b := b) HW4.out.2))
  have L4 := hid K4.out.le
  have G4 := hid (G3.out.sub K4.out.rel)
  have v3s := V3.out.size
  have E4 := hid (E3.out.wr5 V4.out (by omega))
  have R4 := hid (range_wr5 R3.out V4.out (by omega))
  have F4 := hid (((K4.out.ev.lower (lo' := w.heap.size + 1) (by omega))).later HW4.out.2)
  have Q4 := hid HW4.out.1
  have H4 := hid G4.out.st
  obtain ⟨R5, HR5⟩ : ∃ R, Hid (isR b4 4 [41] (ts.drop p4) = R) := ⟨_, rfl⟩
  go_wp2_with fail
  refine (l5Mark_is b v ts p4 deep b4 [41] R5 HR5.out _ S4.out).mono ?_
  rintro e m5 ⟨rfl, s5, h5⟩
  go_wp2_with fail
  refine (l5Must_is b v ts (p4 + R5.toNat) deep b4 R5 _ s5).mono ?_
  rintro e q5 ⟨rfl, s5', h5'⟩
  obtain ⟨p5, Hp5⟩ : ∃ n, Hid (p4 + R5.toNat = n) := ⟨_, rfl⟩
  obtain ⟨b5, Hb5⟩ : ∃ n, Hid ((b4 || !R5) = n) := ⟨_, rfl⟩
  rw [Hp5.out, Hb5.out] at s5'
  have S5 := hid s5'
  have V5 := hid (h5.trans h5')
  have W5 := hid (W4.out.trans (h5.trans h5'))
  have L5 : Hid (p4 ≤ p5) := hid (by rw [← Hp5.out]; exact le_toNat _ _)
  have G5 := hid (H4.out.mark hG (c := 41) (by decide) HR5.out)
  rw [Hp5.out, Hb5.out] at G5
  clear s5 s5' h5 h5' HR5 Hp5 Hb5
  have E5 := hid (E4.out.wr5 V5.out (by omega))
  have R5 := hid (range_wr5 R4.out V5.out (by omega))
  have F5 := hid (F4.out.wr5 V5.out (by omega))
  have Q5 := hid (range_wr5 Q4.out V5.out (by omega))
  have T5 : Hid (q5.there w.heap.size 0 4) := hid (there_wr (there_wr (there_wr (there_wr (there_wr T0.out V1.out (by omega)) V2.out (by omega)) V3.out (by omega)) V4.out (by omega)) V5.out (by omega))
  go_wp2_with (first | (refine wpList_load_mid rfl 43 _ rfl n2.heap.size 0 rfl _ _ R5.out Tryz.underlying43 rfl sizeIE2 ?_) | (refine wpList_load_mid rfl 43 _ rfl n4.heap.size 0 rfl _ _ Q5.out Tryz.underlying43 rfl sizeIE2 ?_))
  refine (l3Two_is k x2 x4 (w.heap.size + 1) _ u2 u4 E5.out F5.out (by have z1 := V1.out.size; rw [World.size_alloc] at z1; have := V2.out.size; have := V3.out.size; have := V4.out.size; have := V5.out.size; omega)).mono ?_
  rintro e w6 ⟨z, rfl, e6, hb6⟩
  have o6 := oneX (twoX k x2 x4) z e6.isOne
  have th6 := there_later T5.out hb6
  have HF := hid (And.intro e6 (And.intro (S5.out.later hb6) (W5.out.trans (.of_below hb6))))
  have HR := hid (choice_st (k := k) G2.out G4.out G5.out)
  clear e6 hb6
  go_wp2_with (refine sA rfl 43 _ _ rfl w.heap.size 0 (xC (twoX k x2 x4) z).toArray rfl rfl th6 sizeIE2 o6 ?_; intro W hW)
  have HW := Got5.close (p := p) (res := resB bad (choiceP (sumP d) k) (ts.drop p)) hbN th6 HF.out.1 HF.out.2.1 HF.out.2.2 (by have := L1.out; have := L2.out; have := L3.out; have := L4.out; have := L5.out; omega) (by rw [resB_bind]; exact HR.out) hW
  have hlv := run_loadVar_mid W w.heap.size 0 _ _ _ HW.2 Tryz.underlying43 rfl sizeIE2
  refine bodyPost_ret (v := .agg (xC (twoX k x2 x4) z).toArray) ?_ rfl ⟨twoX k x2 x4, z, _, _, rfl, HW.1⟩
  simp [results, Tryz.results175, asAddr, hlv, Act.put]
  try rfl
end Go.Proofs.YtpinockfakndlaaGreat
