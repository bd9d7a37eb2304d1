/-
  The contract of the landed code's AffAt.
-/
import Derived.Test.YthecjaonbmefgaaP15ofBx
import Derived.Test.YthecjaonbmefgaaP20ofBx
import Derived.Test.YthecjaonbmefgaaP07ofBx
import Derived.Deep.RegionHeld
namespace Go.Proofs.Ythecjaonbmefgaa
open Go.RowKit Go.Lib
set_option linter.unusedSimpArgs false
set_option linter.unusedVariables false

/-- What a sum is, name by name, numbers going round. -/
def affGo8 (nm : ByteArray → Int) : Int → List AR → Int
  | c, [] => c
  | c, t :: r => affGo8 nm (IntKind.i64.wrap (c + IntKind.i64.wrap (t.n * nm t.s))) r
def affAt8 (c : Int) (ts bs : List AR) : Int := affGo8 (withN bs fun _ => 0) c ts
theorem bound0 (s : ByteArray) (w : World) : Calls Try.prog 29 #[.string s] w fun e w' => e = .returned (.int .i64 0) ∧ Below w.heap.size w w' := by
  go_enter Try.func29, Try.ntmps29
  go_wp2
  go_ret
  exact ⟨rfl, Below.refl _ _⟩
theorem lk0 : Lk (.func (.func 29) #[] #[]) (fun _ => True) (fun _ => 0) :=
  ⟨⟨29, #[], rfl, fun args w => enters_of Try.func29 (by kernel_rfl) rfl args w, fun w _ s => bound0 s w⟩, fun _ _ _ _ => trivial⟩
set_option maxHeartbeats 4000000 in
set_option maxRecDepth 100000 in
theorem impl_AffAt (c : Int) (ts : List AR) (hn : ts.length ≤ 1000000000) (hc : -9223372036854775808 ≤ c ∧ c ≤ 9223372036854775807) (bs : List AR) (hbn : bs.length ≤ 100000000) (va vb : Value) (w : World) (ha : AV w 0 va ts) (hb : AV w 0 vb bs) :
    Calls Try.prog 9 #[.agg #[.int .i64 c, va], vb] w fun e w' => e = .returned (.int .i64 (affAt8 c ts bs)) ∧ Below w.heap.size w w' := by
  have Hb := Lib.hid hb
  obtain ⟨ao, cap, rfl, hr⟩ := ha
  have Hr := Lib.hid hr
  clear hr hb hc
  have B := Lib.hid (alloc_below w (.cells #[.int .i64 c, .slice ao ts.length cap] 26))
  have R0 : Hid ((w.alloc (.cells #[.int .i64 c, .slice ao ts.length cap] 26)).cell? ⟨w.heap.size, 0, Option.none⟩ = some (.int .i64 c)) := box_cell (Below.refl _ _) rfl
  have R1 : Hid ((w.alloc (.cells #[.int .i64 c, .slice ao ts.length cap] 26)).cell? ⟨w.heap.size, 1, Option.none⟩ = some (.slice ao ts.length cap)) := box_cell (i := 1) (Below.refl _ _) rfl
  go_enter Try.func9, Try.ntmps9
  go_wp2_with fail
  refine (with_is bs hbn vb _ _ _ lk0 _ trivial (Hb.out.later B.out)).mono ?_
  rintro e w1 ⟨gv, rfl, hb1, pb, po, hL, h1, h2⟩
  obtain ⟨kf, caps, rfl, hent, hcall⟩ := hL.is
  have HJ := Lib.hid (And.intro (Hb.out.later (B.out.trans (hb1.mono B.out.size))) (And.intro h1 h2))
  have HL := Lib.hid hL.on
  have HC := Lib.hid hcall
  have LW := Lib.hid (B.out.trans (hb1.mono B.out.size))
  have c0 := keeps hb1 R0.out
  have c1 := keeps hb1 R1.out
  clear hL hcall h1 h2 hb1 R0 R1 B
  go_wp2
  go_loopw [6, 16] (fun x i wr => ∃ (k : Nat) (a : Int), k ≤ ts.length ∧ i = .int .i64 k ∧ x = .int .i64 a ∧ Hid (affAt8 c ts bs = affGo8 (withN bs fun _ => 0) a (ts.drop k)) ∧ Hid (Below w1.heap.size w1 wr)) (fun _ i _ => ts.length - (RowKit.intOf i).toNat)
  case atStart => exact ⟨0, c, by omega, rfl, rfl, rfl, Below.refl _ _⟩
  case round =>
    obtain ⟨k, a, hk, rfl, rfl, hg, HB⟩ := hrel
    clear c0 c1
    by_cases hlt : k < ts.length
    · have hltI : (k : Int) < (ts.length : Int) := by omega
      obtain ⟨t, ht⟩ : ∃ t, ts[k]? = some t := ⟨ts[k], List.getElem?_eq_getElem hlt⟩
      rcases Hr.out with hr | ⟨g, off, rfl, _, gl, hc⟩
      · subst hr; simp at hlt
      have hbw := LW.out.trans (HB.out.mono LW.out.size)
      have A0 := (hbw.cell (p := ⟨g, off + k * 2, Option.none⟩) gl).trans (hc k t ht).1
      have A1 := (hbw.cell (p := ⟨g, off + k * 2 + 1, Option.none⟩) gl).trans (hc k t ht).2
      have R : Hid (affAt8 c ts bs = affGo8 (withN bs fun _ => 0) (IntKind.i64.wrap (a + IntKind.i64.wrap (t.n * (withN bs fun _ => 0) t.s))) (ts.drop (k + 1))) := by show affAt8 c ts bs = _; rw [hg.out, drop8 ht]; rfl
      have HJr := HL.out _ _ ⟨trivial, HJ.out.1, HJ.out.2.1, HJ.out.2.2⟩ HB.out
      obtain ⟨b, hbb⟩ : ∃ b, (withN bs fun _ => 0) t.s = b := ⟨_, rfl⟩
      rw [hbb] at R
      clear hc ht hg hbw
      go_wp2_with fail
      obtain ⟨wq, hwq⟩ : ∃ wq, wr.alloc (.cells #[.string t.s, .int .i64 t.n] 54) = wq := ⟨_, rfl⟩
      have hqb : Below wr.heap.size wr wq := hwq ▸ alloc_below _ _
      obtain ⟨⟨q0, q1⟩, _, _⟩ := blk2 (heap_last wr (.cells #[.string t.s, .int .i64 t.n] 54))
      rw [hwq] at q0 q1 ⊢
      have Q0 := Lib.hid q0
      have Q1 := Lib.hid q1
      have HQ := Lib.hid (HL.out _ _ HJr hqb)
      have hcl : Hid (∀ w2, Below wq.heap.size wq w2 → Calls Try.prog kf (#[.string t.s] ++ caps) w2 fun e w' => e = .returned (.int .i64 b) ∧ Below w2.heap.size w2 w') := by
        intro w2 h2
        have := HC.out w2 (HL.out _ _ HQ.out h2) t.s
        rwa [hbb] at this
      have HBq := Lib.hid (HB.out.trans (hqb.mono HB.out.size))
      have bd : Below wq.heap.size wq wq.drew := (Below.refl _ wq).drew
      clear q0 q1 hwq hqb HJr hbb A0 A1
      refine wp_region_held_drew (S := Below wq.heap.size wq) (by kernel_rfl) bd (fun hHeld => ?_)
      refine wpAnyH_take (i := 0) (v := .int .i64 a) rfl (by kernel_rfl) (by kernel_rfl) (by kernel_rfl) (fun _ _ _ h => h) (Or.inl ⟨by rfl, ?ya0⟩) hHeld ?_
      case ya0 => intro w hSw; go_simp
      simp only [Act.put, List.getElem_toArray, List.getElem_cons_succ, List.getElem_cons_zero, List.setIfInBounds_toArray, List.set_cons_zero, List.set_cons_succ]
      refine wpAnyH_take (i := 1) (v := .pointer (some ⟨wr.heap.size, 1, Option.none⟩)) rfl (by kernel_rfl) (by kernel_rfl) (by kernel_rfl) (fun _ _ _ h => h) (Or.inl ⟨by rfl, ?ya1⟩) hHeld ?_
      case ya1 => intro w hSw; go_simp
      simp only [Act.put, List.getElem_toArray, List.getElem_cons_succ, List.getElem_cons_zero, List.setIfInBounds_toArray, List.set_cons_zero, List.set_cons_succ]
      refine wpAnyH_take (i := 2) (v := .int .i64 t.n) rfl (by kernel_rfl) (by kernel_rfl) (by kernel_rfl) (fun _ _ _ h => h) (Or.inl ⟨by rfl, ?ya2⟩) hHeld ?_
      case ya2 => intro w hSw; have q := keeps hSw Q1.out; go_simp
      simp only [Act.put, List.getElem_toArray, List.getElem_cons_succ, List.getElem_cons_zero, List.setIfInBounds_toArray, List.set_cons_zero, List.set_cons_succ]
      refine wpAnyH_take (i := 3) (v := .func (.func kf) #[] caps) rfl (by kernel_rfl) (by kernel_rfl) (by kernel_rfl) (fun _ _ _ h => h) (Or.inl ⟨by rfl, ?ya3⟩) hHeld ?_
      case ya3 => intro w hSw; go_simp
      simp only [Act.put, List.getElem_toArray, List.getElem_cons_succ, List.getElem_cons_zero, List.setIfInBounds_toArray, List.set_cons_zero, List.set_cons_succ]
      refine wpAnyH_take (i := 4) (v := .pointer (some ⟨wr.heap.size, 0, Option.none⟩)) rfl (by kernel_rfl) (by kernel_rfl) (by kernel_rfl) (fun _ _ _ h => h) (Or.inl ⟨by rfl, ?ya4⟩) hHeld ?_
      case ya4 => intro w hSw; go_simp
      simp only [Act.put, List.getElem_toArray, List.getElem_cons_succ, List.getElem_cons_zero, List.setIfInBounds_toArray, List.set_cons_zero, List.set_cons_succ]
      refine wpAnyH_take (i := 5) (v := .string t.s) rfl (by kernel_rfl) (by kernel_rfl) (by kernel_rfl) (fun _ _ _ h => h) (Or.inl ⟨by rfl, ?ya5⟩) hHeld ?_
      case ya5 => intro w hSw; have q := keeps hSw Q0.out; go_simp
      simp only [Act.put, List.getElem_toArray, List.getElem_cons_succ, List.getElem_cons_zero, List.setIfInBounds_toArray, List.set_cons_zero, List.set_cons_succ]
      refine wpAnyH_ready (rs := [6]) (by kernel_rfl) (by simp) ?_
      refine AllReadyH.cons rfl (fun K hK => ?_) AllReadyH.nil
      rw [if_pos (by rfl)]
      simp only [List.getElem_toArray, List.getElem_cons_succ, List.getElem_cons_zero]
      go_wp2_with fail
      refine (hcl.out _ hHeld).mono ?_
      rintro e w4 ⟨rfl, hb4⟩
      go_wp2_with fail
      refine hK.out _ _ (hHeld.trans (hb4.mono hHeld.size)) (fun hHeld => ?_)
      refine wpAnyH_take (i := 7) (v := .int .i64 (IntKind.i64.wrap (t.n * b))) rfl (by kernel_rfl) (by kernel_rfl) (by kernel_rfl) (fun _ _ _ h => h) (Or.inl ⟨by rfl, ?ya7⟩) hHeld ?_
      case ya7 => intro w hSw; go_simp
      simp only [Act.put, List.getElem_toArray, List.getElem_cons_succ, List.getElem_cons_zero, List.setIfInBounds_toArray, List.set_cons_zero, List.set_cons_succ]
      refine wpAnyH_take (i := 8) (v := .int .i64 (IntKind.i64.wrap (a + IntKind.i64.wrap (t.n * b)))) rfl (by kernel_rfl) (by kernel_rfl) (by kernel_rfl) (fun _ _ _ h => h) (Or.inl ⟨by rfl, ?ya8⟩) hHeld ?_
      case ya8 => intro w hSw; go_simp
      simp only [Act.put, List.getElem_toArray, List.getElem_cons_succ, List.getElem_cons_zero, List.setIfInBounds_toArray, List.set_cons_zero, List.set_cons_succ]
      refine wpAnyH_take (i := 9) (v := .int .i64 (IntKind.i64.wrap (a + IntKind.i64.wrap (t.n * b)))) rfl (by kernel_rfl) (by kernel_rfl) (by kernel_rfl) (fun _ _ _ h => h) (Or.inl ⟨by rfl, ?ya9⟩) hHeld ?_
      case ya9 => intro w hSw; go_simp
      simp only [Act.put, List.getElem_toArray, List.getElem_cons_succ, List.getElem_cons_zero, List.setIfInBounds_toArray, List.set_cons_zero, List.set_cons_succ]
      refine wpAnyH_done (by kernel_rfl) ?_ _
      have B4 := Lib.hid (HBq.out.trans (hHeld.mono HBq.out.size))
      clear hHeld bd
      go_wp2
      go_roundw
      case rel => exact ⟨k + 1, _, by omega, by go_num, rfl, R.out, B4.out⟩
      case measure => simp [RowKit.intOf]; omega
    · have he : Hid (affAt8 c ts bs = a) := by show affAt8 c ts bs = a; rw [hg.out, List.drop_of_length_le (by omega)]; rfl
      go_wp2
      go_ret
      exact retI he.out.symm (LW.out.trans (HB.out.mono LW.out.size))
end Go.Proofs.Ythecjaonbmefgaa
