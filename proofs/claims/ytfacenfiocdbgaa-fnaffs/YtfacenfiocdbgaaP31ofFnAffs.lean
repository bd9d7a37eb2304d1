/-
  Texts in one: AffAtI, AffAtS.
-/
import Derived.Test.YtfacenfiocdbgaaP14ofFnAffs
import Derived.Test.YtfacenfiocdbgaaP30ofFnAffs
import Derived.Test.YtfacenfiocdbgaaP07ofFnAffs
import Derived.Deep.RegionHeld
import Derived.Deep.QuietTactic
import Derived.BigQuiet
/-
  The contract of the landed code's AffAt.
-/
namespace Go.Proofs.Ytfacenfiocdbgaa
open Go.RowKit Go.Lib
set_option linter.unusedSimpArgs false
set_option linter.unusedVariables false

/-- What a sum is, name by name, numbers going round. -/
def affGo8 (nm : ByteArray → Int) : Int → List AR → Int
  | c, [] => c
  | c, t :: r => affGo8 nm (IntKind.i64.wrap (c + IntKind.i64.wrap (t.n * nm t.s))) r
def affAt8 (c : Int) (ts bs : List AR) : Int := affGo8 (withN bs fun _ => 0) c ts
theorem bound0 (s : ByteArray) (w : World) : Calls Try.prog 37 #[.string s] w fun e w' => e = .returned (.int .i64 0) ∧ Below w.heap.size w w' := by
  go_enter Try.func37, Try.ntmps37
  go_wp2
  go_ret
  exact ⟨rfl, Below.refl _ _⟩
theorem lk0 : Lk (.func (.func 37) #[] #[]) (fun _ => True) (fun _ => 0) :=
  ⟨⟨37, #[], rfl, fun args w => enters_of Try.func37 (by kernel_rfl) rfl args w, fun w _ s => bound0 s w⟩, fun _ _ _ _ => trivial⟩
set_option maxHeartbeats 4000000 in
set_option maxRecDepth 100000 in
theorem impl_AffAt (c : Int) (ts : List AR) (hn : ts.length ≤ 1000000000) (hc : -9223372036854775808 ≤ c ∧ c ≤ 9223372036854775807) (bs : List AR) (hbn : bs.length ≤ 100000000) (va vb : Value) (w : World) (ha : AV w 0 va ts) (hb : AV w 0 vb bs) :
    Calls Try.prog 14 #[.agg #[.int .i64 c, va], vb] w fun e w' => e = .returned (.int .i64 (affAt8 c ts bs)) ∧ Below w.heap.size w w' := by
  have Hb := Lib.hid hb
  obtain ⟨ao, cap, rfl, hr⟩ := ha
  have Hr := Lib.hid hr
  clear hr hb hc
  have B := Lib.hid (alloc_below w (.cells #[.int .i64 c, .slice ao ts.length cap] 26))
  have R0 : Hid ((w.alloc (.cells #[.int .i64 c, .slice ao ts.length cap] 26)).cell? ⟨w.heap.size, 0, Option.none⟩ = some (.int .i64 c)) := box_cell (Below.refl _ _) rfl
  have R1 : Hid ((w.alloc (.cells #[.int .i64 c, .slice ao ts.length cap] 26)).cell? ⟨w.heap.size, 1, Option.none⟩ = some (.slice ao ts.length cap)) := box_cell (i := 1) (Below.refl _ _) rfl
  go_enter Try.func14, Try.ntmps14
  go_wp2_with fail
  refine (with_is bs hbn vb _ _ _ lk0 _ trivial (Hb.out.later B.out)).mono ?_
  rintro e w1 ⟨gv, rfl, hb1, pb, po, hL, h1, h2⟩
  obtain ⟨kf, caps, rfl, hent, hcall⟩ := hL.is
  have HJ := Lib.hid (And.intro (Hb.out.later (B.out.trans (hb1.mono B.out.size))) (And.intro h1 h2))
  have HL := Lib.hid hL.on
  have HC := Lib.hid hcall
  have LW := Lib.hid (B.out.trans (hb1.mono B.out.size))
  have c0 := keeps hb1 R0.out
  have c1 := keeps hb1 R1.out
  clear hL hcall h1 h2 hb1 R0 R1 B
  go_wp2
  go_loopw [6, 16] (fun x i wr => ∃ (k : Nat) (a : Int), k ≤ ts.length ∧ i = .int .i64 k ∧ x = .int .i64 a ∧ Hid (affAt8 c ts bs = affGo8 (withN bs fun _ => 0) a (ts.drop k)) ∧ Hid (Below w1.heap.size w1 wr)) (fun _ i _ => ts.length - (RowKit.intOf i).toNat)
  case atStart => exact ⟨0, c, by omega, rfl, rfl, rfl, Below.refl _ _⟩
  case round =>
    obtain ⟨k, a, hk, rfl, rfl, hg, HB⟩ := hrel
    clear c0 c1
    by_cases hlt : k < ts.length
    · have hltI : (k : Int) < (ts.length : Int) := by omega
      obtain ⟨t, ht⟩ : ∃ t, ts[k]? = some t := ⟨ts[k], List.getElem?_eq_getElem hlt⟩
      rcases Hr.out with hr | ⟨g, off, rfl, _, gl, hc⟩
      · subst hr; simp at hlt
      have hbw := LW.out.trans (HB.out.mono LW.out.size)
      have A0 := (hbw.cell (p := ⟨g, off + k * 2, Option.none⟩) gl).trans (hc k t ht).1
      have A1 := (hbw.cell (p := ⟨g, off + k * 2 + 1, Option.none⟩) gl).trans (hc k t ht).2
      have R : Hid (affAt8 c ts bs = affGo8 (withN bs fun _ => 0) (IntKind.i64.wrap (a + IntKind.i64.wrap (t.n * (withN bs fun _ => 0) t.s))) (ts.drop (k + 1))) := by show affAt8 c ts bs = _; rw [hg.out, drop8 ht]; rfl
      have HJr := HL.out _ _ ⟨trivial, HJ.out.1, HJ.out.2.1, HJ.out.2.2⟩ HB.out
      obtain ⟨b, hbb⟩ : ∃ b, (withN bs fun _ => 0) t.s = b := ⟨_, rfl⟩
      rw [hbb] at R
      clear hc ht hg hbw
      go_wp2_with fail
      obtain ⟨wq, hwq⟩ : ∃ wq, wr.alloc (.cells #[.string t.s, .int .i64 t.n] 59) = wq := ⟨_, rfl⟩
      have hqb : Below wr.heap.size wr wq := hwq ▸ alloc_below _ _
      obtain ⟨⟨q0, q1⟩, _, _⟩ := blk2 (heap_last wr (.cells #[.string t.s, .int .i64 t.n] 59))
      rw [hwq] at q0 q1 ⊢
      have Q0 := Lib.hid q0
      have Q1 := Lib.hid q1
      have HQ := Lib.hid (HL.out _ _ HJr hqb)
      have hcl : Hid (∀ w2, Below wq.heap.size wq w2 → Calls Try.prog kf (#[.string t.s] ++ caps) w2 fun e w' => e = .returned (.int .i64 b) ∧ Below w2.heap.size w2 w') := by
        intro w2 h2
        have := HC.out w2 (HL.out _ _ HQ.out h2) t.s
        rwa [hbb] at this
      have HBq := Lib.hid (HB.out.trans (hqb.mono HB.out.size))
      have bd : Below wq.heap.size wq wq.drew := (Below.refl _ wq).drew
      clear q0 q1 hwq hqb HJr hbb A0 A1
      refine wp_region_held_drew (S := Below wq.heap.size wq) (by kernel_rfl) bd (fun hHeld => ?_)
      refine wpAnyH_take (i := 0) (v := .int .i64 a) rfl (by kernel_rfl) (by kernel_rfl) (by kernel_rfl) (fun _ _ _ h => h) (Or.inl ⟨by rfl, ?ya0⟩) hHeld ?_
      case ya0 => intro w hSw; go_simp
      simp only [Act.put, List.getElem_toArray, List.getElem_cons_succ, List.getElem_cons_zero, List.setIfInBounds_toArray, List.set_cons_zero, List.set_cons_succ]
      refine wpAnyH_take (i := 1) (v := .pointer (some ⟨wr.heap.size, 1, Option.none⟩)) rfl (by kernel_rfl) (by kernel_rfl) (by kernel_rfl) (fun _ _ _ h => h) (Or.inl ⟨by rfl, ?ya1⟩) hHeld ?_
      case ya1 => intro w hSw; go_simp
      simp only [Act.put, List.getElem_toArray, List.getElem_cons_succ, List.getElem_cons_zero, List.setIfInBounds_toArray, List.set_cons_zero, List.set_cons_succ]
      refine wpAnyH_take (i := 2) (v := .int .i64 t.n) rfl (by kernel_rfl) (by kernel_rfl) (by kernel_rfl) (fun _ _ _ h => h) (Or.inl ⟨by rfl, ?ya2⟩) hHeld ?_
      case ya2 => intro w hSw; have q := keeps hSw Q1.out; go_simp
      simp only [Act.put, List.getElem_toArray, List.getElem_cons_succ, List.getElem_cons_zero, List.setIfInBounds_toArray, List.set_cons_zero, List.set_cons_succ]
      refine wpAnyH_take (i := 3) (v := .func (.func kf) #[] caps) rfl (by kernel_rfl) (by kernel_rfl) (by kernel_rfl) (fun _ _ _ h => h) (Or.inl ⟨by rfl, ?ya3⟩) hHeld ?_
      case ya3 => intro w hSw; go_simp
      simp only [Act.put, List.getElem_toArray, List.getElem_cons_succ, List.getElem_cons_zero, List.setIfInBounds_toArray, List.set_cons_zero, List.set_cons_succ]
      refine wpAnyH_take (i := 4) (v := .pointer (some ⟨wr.heap.size, 0, Option.none⟩)) rfl (by kernel_rfl) (by kernel_rfl) (by kernel_rfl) (fun _ _ _ h => h) (Or.inl ⟨by rfl, ?ya4⟩) hHeld ?_
      case ya4 => intro w hSw; go_simp
      simp only [Act.put, List.getElem_toArray, List.getElem_cons_succ, List.getElem_cons_zero, List.setIfInBounds_toArray, List.set_cons_zero, List.set_cons_succ]
      refine wpAnyH_take (i := 5) (v := .string t.s) rfl (by kernel_rfl) (by kernel_rfl) (by kernel_rfl) (fun _ _ _ h => h) (Or.inl ⟨by rfl, ?ya5⟩) hHeld ?_
      case ya5 => intro w hSw; have q := keeps hSw Q0.out; go_simp
      simp only [Act.put, List.getElem_toArray, List.getElem_cons_succ, List.getElem_cons_zero, List.setIfInBounds_toArray, List.set_cons_zero, List.set_cons_succ]
      refine wpAnyH_ready (rs := [6]) (by kernel_rfl) (by simp) ?_
      refine AllReadyH.cons rfl (fun K hK => ?_) AllReadyH.nil
      rw [if_pos (by rfl)]
      simp only [List.getElem_toArray, List.getElem_cons_succ, List.getElem_cons_zero]
      go_wp2_with fail
      refine (hcl.out _ hHeld).mono ?_
      rintro e w4 ⟨rfl, hb4⟩
      go_wp2_with fail
      refine hK.out _ _ (hHeld.trans (hb4.mono hHeld.size)) (fun hHeld => ?_)
      refine wpAnyH_take (i := 7) (v := .int .i64 (IntKind.i64.wrap (t.n * b))) rfl (by kernel_rfl) (by kernel_rfl) (by kernel_rfl) (fun _ _ _ h => h) (Or.inl ⟨by rfl, ?ya7⟩) hHeld ?_
      case ya7 => intro w hSw; go_simp
      simp only [Act.put, List.getElem_toArray, List.getElem_cons_succ, List.getElem_cons_zero, List.setIfInBounds_toArray, List.set_cons_zero, List.set_cons_succ]
      refine wpAnyH_take (i := 8) (v := .int .i64 (IntKind.i64.wrap (a + IntKind.i64.wrap (t.n * b)))) rfl (by kernel_rfl) (by kernel_rfl) (by kernel_rfl) (fun _ _ _ h => h) (Or.inl ⟨by rfl, ?ya8⟩) hHeld ?_
      case ya8 => intro w hSw; go_simp
      simp only [Act.put, List.getElem_toArray, List.getElem_cons_succ, List.getElem_cons_zero, List.setIfInBounds_toArray, List.set_cons_zero, List.set_cons_succ]
      refine wpAnyH_take (i := 9) (v := .int .i64 (IntKind.i64.wrap (a + IntKind.i64.wrap (t.n * b)))) rfl (by kernel_rfl) (by kernel_rfl) (by kernel_rfl) (fun _ _ _ h => h) (Or.inl ⟨by rfl, ?ya9⟩) hHeld ?_
      case ya9 => intro w hSw; go_simp
      simp only [Act.put, List.getElem_toArray, List.getElem_cons_succ, List.getElem_cons_zero, List.setIfInBounds_toArray, List.set_cons_zero, List.set_cons_succ]
      refine wpAnyH_done (by kernel_rfl) ?_ _
      have B4 := Lib.hid (HBq.out.trans (hHeld.mono HBq.out.size))
      clear hHeld bd
      go_wp2
      go_roundw
      case rel => exact ⟨k + 1, _, by omega, by go_num, rfl, R.out, B4.out⟩
      case measure => simp [RowKit.intOf]; omega
    · have he : Hid (affAt8 c ts bs = a) := by show affAt8 c ts bs = a; rw [hg.out, List.drop_of_length_le (by omega)]; rfl
      go_wp2
      go_ret
      exact retI he.out.symm (LW.out.trans (HB.out.mono LW.out.size))
end Go.Proofs.Ytfacenfiocdbgaa
/-
  The contract of the specification's AffAt.
-/
namespace Go.Proofs.Ytfacenfiocdbgaa
open Go.RowKit Go.Lib
set_option linter.unusedSimpArgs false
set_option linter.unusedVariables false

theorem belowD8 {B : Nat} {w w' : World} (h : Below B w w') (n : Nat) : Below B w (w'.drewN n) := ⟨h.os, h.tape, h.output, h.size, h.block⟩
theorem withN_hit {bs : List AR} {s : ByteArray} {j : Nat} {b : AR} (h : bindOf bs.reverse s = bindOf (bs.take (j + 1)).reverse s) (hb : bs[j]? = some b) (he : b.s = s) : withN bs (fun _ => 0) s = b.n := by
  rw [withN, h, take_snocA hb, List.reverse_append]
  simp [bindOf, he]
theorem withN_go {bs : List AR} {s : ByteArray} {j : Nat} {b : AR} (h : bindOf bs.reverse s = bindOf (bs.take (j + 1)).reverse s) (hb : bs[j]? = some b) (he : ¬ b.s = s) : bindOf bs.reverse s = bindOf (bs.take j).reverse s := by
  rw [h, take_snocA hb, List.reverse_append]
  simp [bindOf, he]
theorem withN_miss {bs : List AR} {s : ByteArray} (h : bindOf bs.reverse s = bindOf (bs.take 0).reverse s) : withN bs (fun _ => 0) s = 0 := by
  rw [withN, h]; rfl
theorem wrap_in8 (a : Int) (h : -9223372036854775808 ≤ a ∧ a ≤ 9223372036854775807) (n : Int) : IntKind.i64.wrap (a + IntKind.i64.wrap (n * 0)) = a := by
  rw [Int.mul_zero, wrap_small 0 (by omega) (by omega), Int.add_zero, IntKind.wrap_i64]; omega
theorem wrapE8 (x : Int) : IntKind.i64.wrap x = wrap64 x := by rw [IntKind.wrap_i64]; unfold wrap64; omega
theorem wrap_rng8 (a : Int) : -9223372036854775808 ≤ IntKind.i64.wrap a ∧ IntKind.i64.wrap a ≤ 9223372036854775807 := by rw [IntKind.wrap_i64]; omega
set_option maxHeartbeats 4000000 in
set_option maxRecDepth 100000 in
theorem spec_AffAt (c : Int) (ts : List AR) (hn : ts.length ≤ 1000000000) (hc : -9223372036854775808 ≤ c ∧ c ≤ 9223372036854775807) (bs : List AR) (hbn : bs.length ≤ 100000000) (va vb : Value) (w : World) (ha : AV w 0 va ts) (hb : AV w 0 vb bs) :
    Calls Try.prog 22 #[.agg #[.int .i64 c, va], vb] w fun e w' => e = .returned (.int .i64 (affAt8 c ts bs)) ∧ Below w.heap.size w w' := by
  obtain ⟨ao, cap, rfl, hr⟩ := ha
  obtain ⟨bo, bcap, rfl, hbr⟩ := hb
  have Hr := Lib.hid hr
  have Hbr := Lib.hid hbr
  have Hc := Lib.hid hc
  clear hr hbr hc
  have hbI : (bs.length : Int) ≤ 100000000 := by omega
  obtain ⟨w0, hw0⟩ : ∃ w0, w.alloc (.cells #[.int .i64 c, .slice ao ts.length cap] 26) = w0 := ⟨_, rfl⟩
  have B : Hid (Below w.heap.size w w0) := hw0 ▸ alloc_below w (.cells #[.int .i64 c, .slice ao ts.length cap] 26)
  have R0 : Hid (w0.cell? ⟨w.heap.size, 0, Option.none⟩ = some (.int .i64 c)) := hw0 ▸ box_cell (Below.refl _ _) rfl
  have R1 : Hid (w0.cell? ⟨w.heap.size, 1, Option.none⟩ = some (.slice ao ts.length cap)) := hw0 ▸ box_cell (i := 1) (Below.refl _ _) rfl
  have c0 := R0.out
  have HW0 := Lib.hid hw0
  clear hw0
  go_enter Try.func22, Try.ntmps22
  go_wp2_with fail
  rw [HW0.out]
  go_wp2
  go_loopw [5, 6] (fun x i wr => ∃ (k : Nat) (a : Int), k ≤ ts.length ∧ i = .int .i64 k ∧ x = .int .i64 a ∧ Hid (affAt8 c ts bs = affGo8 (withN bs fun _ => 0) a (ts.drop k) ∧ -9223372036854775808 ≤ a ∧ a ≤ 9223372036854775807) ∧ Hid (Below w0.heap.size w0 wr)) (fun _ i _ => ts.length - (RowKit.intOf i).toNat)
  case atStart => exact ⟨0, c, by omega, rfl, rfl, ⟨rfl, Hc.out⟩, Below.refl _ _⟩
  case round =>
    obtain ⟨k, a, hk, rfl, rfl, hg, HB⟩ := hrel
    clear c0
    have c1 := keeps HB.out R1.out
    by_cases hlt : k < ts.length
    · have hltI : (k : Int) < (ts.length : Int) := by omega
      obtain ⟨t, ht⟩ : ∃ t, ts[k]? = some t := ⟨ts[k], List.getElem?_eq_getElem hlt⟩
      rcases Hr.out with hr | ⟨g, off, rfl, _, gl, hc⟩
      · subst hr; simp at hlt
      have C0 := Lib.hid ((B.out.cell (p := ⟨g, off + k * 2, Option.none⟩) gl).trans (hc k t ht).1)
      have C1 := Lib.hid ((B.out.cell (p := ⟨g, off + k * 2 + 1, Option.none⟩) gl).trans (hc k t ht).2)
      have HT := Lib.hid ht
      clear hc ht
      go_wp2
      go_loopw [5, 7] (fun z i wi => ∃ (j : Nat) (x : Int), j ≤ bs.length ∧ z = .int .i64 a ∧ i = .int .i64 x ∧ x = (j : Int) - 1 ∧ Hid (bindOf bs.reverse t.s = bindOf (bs.take j).reverse t.s) ∧ Hid (Below w0.heap.size w0 wi)) (fun _ i _ => (RowKit.intOf i + 1).toNat)
      case atStart => exact ⟨bs.length, _, Nat.le_refl _, rfl, rfl, by omega, (by show bindOf bs.reverse t.s = bindOf (bs.take bs.length).reverse t.s; rw [List.take_length]), HB⟩
      case round =>
        obtain ⟨j, x, hj, rfl, rfl, hx, hbd, HB2⟩ := hrel
        clear c1
        have d1 := keeps HB2.out R1.out
        cases j with
        | zero =>
          have hxn : x < 0 := by omega
          have R : Hid (affAt8 c ts bs = affGo8 (withN bs fun _ => 0) a (ts.drop (k + 1)) ∧ -9223372036854775808 ≤ a ∧ a ≤ 9223372036854775807) := by
            refine ⟨?_, hg.out.2⟩
            rw [hg.out.1, drop8 HT.out]
            show affGo8 _ (IntKind.i64.wrap (a + IntKind.i64.wrap (t.n * withN bs (fun _ => 0) t.s))) _ = _
            rw [withN_miss hbd.out, wrap_in8 a hg.out.2]
          clear hx
          go_wp2
          go_roundw
          case rel => exact ⟨k + 1, a, by omega, by go_num, rfl, R, HB2⟩
          case measure => simp [RowKit.intOf]; omega
        | succ m =>
          obtain rfl : x = (m : Int) := by omega
          obtain ⟨b, hb⟩ : ∃ b, bs[m]? = some b := ⟨bs[m], List.getElem?_eq_getElem (by omega)⟩
          rcases Hbr.out with hr | ⟨h, boff, rfl, _, hl, hcb⟩
          · subst hr; simp at hj
          have D0 := keeps HB2.out ((B.out.cell (p := ⟨h, boff + m * 2, Option.none⟩) hl).trans (hcb m b hb).1)
          have D1 := keeps HB2.out ((B.out.cell (p := ⟨h, boff + m * 2 + 1, Option.none⟩) hl).trans (hcb m b hb).2)
          have E0 := keeps HB2.out C0.out
          have E1 := keeps HB2.out C1.out
          have hmI : (m : Int) < (bs.length : Int) := by omega
          have hm0 : ¬ (m : Int) < 0 := by omega
          have hmw : IntKind.i64.wrap (m : Int) = (m : Int) := wrap_small _ (by omega) (by omega)
          have hkw : IntKind.i64.wrap (k : Int) = (k : Int) := wrap_small _ (by omega) (by omega)
          clear hcb hx
          by_cases he : b.s = t.s
          · have R : Hid (affAt8 c ts bs = affGo8 (withN bs fun _ => 0) (IntKind.i64.wrap (a + IntKind.i64.wrap (t.n * b.n))) (ts.drop (k + 1)) ∧ -9223372036854775808 ≤ IntKind.i64.wrap (a + IntKind.i64.wrap (t.n * b.n)) ∧ IntKind.i64.wrap (a + IntKind.i64.wrap (t.n * b.n)) ≤ 9223372036854775807) := by
              refine ⟨?_, wrap_rng8 _⟩
              rw [hg.out.1, drop8 HT.out]
              show affGo8 _ (IntKind.i64.wrap (a + IntKind.i64.wrap (t.n * withN bs (fun _ => 0) t.s))) _ = _
              rw [withN_hit hbd.out hb he]
            have R := (show Hid (affAt8 c ts bs = affGo8 (withN bs fun _ => 0) (wrap64 (a + wrap64 (t.n * b.n))) (ts.drop (k + 1)) ∧ -9223372036854775808 ≤ wrap64 (a + wrap64 (t.n * b.n)) ∧ wrap64 (a + wrap64 (t.n * b.n)) ≤ 9223372036854775807) from (by have h := R.out; rw [wrapE8, wrapE8] at h; exact h))
            clear hb
            rw [he] at D0
            clear he
            go_wp2_with fail
            go_quiet (fail)
            go_wp2_with fail
            go_quiet (fail)
            go_wp2
            go_roundw
            case rel => exact ⟨k + 1, _, by omega, by go_num, rfl, ⟨R.out.1, R.out.2⟩, belowD8 HB2.out _⟩
            case measure => simp [RowKit.intOf]; omega
          · have R := Lib.hid (withN_go hbd.out hb he)
            have hne := str_ne he
            clear hb he
            go_wp2_with fail
            go_quiet (fail)
            go_wp2
            go_roundw
            case rel => exact ⟨m, _, by omega, rfl, rfl, rfl, R, belowD8 HB2.out _⟩
            case measure => simp [RowKit.intOf]
    · have he : Hid (affAt8 c ts bs = a) := by show affAt8 c ts bs = a; rw [hg.out.1, List.drop_of_length_le (by omega)]; rfl
      go_wp2
      go_ret
      exact retI he.out.symm (B.out.trans (HB.out.mono B.out.size))
end Go.Proofs.Ytfacenfiocdbgaa
