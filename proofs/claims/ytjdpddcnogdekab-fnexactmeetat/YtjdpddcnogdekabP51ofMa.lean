/-
  Texts in one: BindRow, AffAtS.
-/
import Derived.Test.YtjdpddcnogdekabAstArr
import Derived.Test.YtjdpddcnogdekabAstPOpen
import Derived.Test.YtjdpddcnogdekabP50ofMa
import Derived.Deep.QuietTactic
import Derived.BigQuiet
/-
  Rows of binds: their sizes, copies, and whether they are the same; rows that came in, opened.
-/
namespace Go.Proofs.Ytjdpddcnogdekab
open Go.RowKit Go.Lib
set_option linter.unusedSimpArgs false
set_option linter.unusedVariables false

theorem infoIB : (Try.prog.info? 70).map (fun i => (i.zero, i.size, i.bytes)) = some (some (.agg #[.string ⟨#[]⟩, .int .i64 0]), 2, 24) := by kernel_rfl
theorem sizeIB : (Try.prog.info? 70).map (·.size) = some 2 := by kernel_rfl
end Go.Proofs.Ytjdpddcnogdekab
namespace Go.Proofs.Ytjdpddcnogdekab
open Go.ChangeShapes Go.WideShapes Go.ChangeAt Go.RowKit
section
variable {H : Type} {enc : TypeId × Value → H} {W : World} {sp : Nat → Bool} {held : Bool}
end
end Go.Proofs.Ytjdpddcnogdekab
/-
  The contract of the specification's AffAt.
-/
namespace Go.Proofs.Ytjdpddcnogdekab
open Go.RowKit Go.Lib
set_option linter.unusedSimpArgs false
set_option linter.unusedVariables false

theorem belowD8 {B : Nat} {w w' : World} (h : Below B w w') (n : Nat) : Below B w (w'.drewN n) := ⟨h.os, h.tape, h.output, h.size, h.block⟩
theorem withN_hit {bs : List AR} {s : ByteArray} {j : Nat} {b : AR} (h : bindOf bs.reverse s = bindOf (bs.take (j + 1)).reverse s) (hb : bs[j]? = some b) (he : b.s = s) : withN bs (fun _ => 0) s = b.n := by
  rw [withN, h, take_snocA hb, List.reverse_append]
  simp [bindOf, he]
theorem withN_go {bs : List AR} {s : ByteArray} {j : Nat} {b : AR} (h : bindOf bs.reverse s = bindOf (bs.take (j + 1)).reverse s) (hb : bs[j]? = some b) (he : ¬ b.s = s) : bindOf bs.reverse s = bindOf (bs.take j).reverse s := by
  rw [h, take_snocA hb, List.reverse_append]
  simp [bindOf, he]
theorem withN_miss {bs : List AR} {s : ByteArray} (h : bindOf bs.reverse s = bindOf (bs.take 0).reverse s) : withN bs (fun _ => 0) s = 0 := by
  rw [withN, h]; rfl
theorem wrap_in8 (a : Int) (h : -9223372036854775808 ≤ a ∧ a ≤ 9223372036854775807) (n : Int) : IntKind.i64.wrap (a + IntKind.i64.wrap (n * 0)) = a := by
  rw [Int.mul_zero, wrap_small 0 (by omega) (by omega), Int.add_zero, IntKind.wrap_i64]; omega
theorem wrapE8 (x : Int) : IntKind.i64.wrap x = wrap64 x := by rw [IntKind.wrap_i64]; unfold wrap64; omega
theorem wrap_rng8 (a : Int) : -9223372036854775808 ≤ IntKind.i64.wrap a ∧ IntKind.i64.wrap a ≤ 9223372036854775807 := by rw [IntKind.wrap_i64]; omega
set_option maxHeartbeats 4000000 in
set_option maxRecDepth 100000 in
theorem spec_AffAt (c : Int) (ts : List AR) (hn : ts.length ≤ 1000000000) (hc : -9223372036854775808 ≤ c ∧ c ≤ 9223372036854775807) (bs : List AR) (hbn : bs.length ≤ 100000000) (va vb : Value) (w : World) (ha : AV w 0 va ts) (hb : AV w 0 vb bs) :
    Calls Try.prog 41 #[.agg #[.int .i64 c, va], vb] w fun e w' => e = .returned (.int .i64 (affAt8 c ts bs)) ∧ Below w.heap.size w w' := by
  obtain ⟨ao, cap, rfl, hr⟩ := ha
  obtain ⟨bo, bcap, rfl, hbr⟩ := hb
  have Hr := Lib.hid hr
  have Hbr := Lib.hid hbr
  have Hc := Lib.hid hc
  clear hr hbr hc
  have hbI : (bs.length : Int) ≤ 100000000 := by omega
  obtain ⟨w0, hw0⟩ : ∃ w0, w.alloc (.cells #[.int .i64 c, .slice ao ts.length cap] 30) = w0 := ⟨_, rfl⟩
  have B : Hid (Below w.heap.size w w0) := hw0 ▸ alloc_below w (.cells #[.int .i64 c, .slice ao ts.length cap] 30)
  have R0 : Hid (w0.cell? ⟨w.heap.size, 0, Option.none⟩ = some (.int .i64 c)) := hw0 ▸ box_cell (Below.refl _ _) rfl
  have R1 : Hid (w0.cell? ⟨w.heap.size, 1, Option.none⟩ = some (.slice ao ts.length cap)) := hw0 ▸ box_cell (i := 1) (Below.refl _ _) rfl
  have c0 := R0.out
  have HW0 := Lib.hid hw0
  clear hw0
  go_enter Try.func41, Try.ntmps41
  go_wp2_with fail
  rw [HW0.out]
  go_wp2
  go_loopw [5, 6] (fun x i wr => ∃ (k : Nat) (a : Int), k ≤ ts.length ∧ i = .int .i64 k ∧ x = .int .i64 a ∧ Hid (affAt8 c ts bs = affGo8 (withN bs fun _ => 0) a (ts.drop k) ∧ -9223372036854775808 ≤ a ∧ a ≤ 9223372036854775807) ∧ Hid (Below w0.heap.size w0 wr)) (fun _ i _ => ts.length - (RowKit.intOf i).toNat)
  case atStart => exact ⟨0, c, by omega, rfl, rfl, ⟨rfl, Hc.out⟩, Below.refl _ _⟩
  case round =>
    obtain ⟨k, a, hk, rfl, rfl, hg, HB⟩ := hrel
    clear c0
    have c1 := keeps HB.out R1.out
    by_cases hlt : k < ts.length
    · have hltI : (k : Int) < (ts.length : Int) := by omega
      obtain ⟨t, ht⟩ : ∃ t, ts[k]? = some t := ⟨ts[k], List.getElem?_eq_getElem hlt⟩
      rcases Hr.out with hr | ⟨g, off, rfl, _, gl, hc⟩
      · subst hr; simp at hlt
      have C0 := Lib.hid ((B.out.cell (p := ⟨g, off + k * 2, Option.none⟩) gl).trans (hc k t ht).1)
      have C1 := Lib.hid ((B.out.cell (p := ⟨g, off + k * 2 + 1, Option.none⟩) gl).trans (hc k t ht).2)
      have HT := Lib.hid ht
      clear hc ht
      go_wp2
      go_loopw [5, 7] (fun z i wi => ∃ (j : Nat) (x : Int), j ≤ bs.length ∧ z = .int .i64 a ∧ i = .int .i64 x ∧ x = (j : Int) - 1 ∧ Hid (bindOf bs.reverse t.s = bindOf (bs.take j).reverse t.s) ∧ Hid (Below w0.heap.size w0 wi)) (fun _ i _ => (RowKit.intOf i + 1).toNat)
      case atStart => exact ⟨bs.length, _, Nat.le_refl _, rfl, rfl, by omega, (by show bindOf bs.reverse t.s = bindOf (bs.take bs.length).reverse t.s; rw [List.take_length]), HB⟩
      case round =>
        obtain ⟨j, x, hj, rfl, rfl, hx, hbd, HB2⟩ := hrel
        clear c1
        have d1 := keeps HB2.out R1.out
        cases j with
        | zero =>
          have hxn : x < 0 := by omega
          have R : Hid (affAt8 c ts bs = affGo8 (withN bs fun _ => 0) a (ts.drop (k + 1)) ∧ -9223372036854775808 ≤ a ∧ a ≤ 9223372036854775807) := by
            refine ⟨?_, hg.out.2⟩
            rw [hg.out.1, drop8 HT.out]
            show affGo8 _ (IntKind.i64.wrap (a + IntKind.i64.wrap (t.n * withN bs (fun _ => 0) t.s))) _ = _
            rw [withN_miss hbd.out, wrap_in8 a hg.out.2]
          clear hx
          go_wp2
          go_roundw
          case rel => exact ⟨k + 1, a, by omega, by go_num, rfl, R, HB2⟩
          case measure => simp [RowKit.intOf]; omega
        | succ m =>
          obtain rfl : x = (m : Int) := by omega
          obtain ⟨b, hb⟩ : ∃ b, bs[m]? = some b := ⟨bs[m], List.getElem?_eq_getElem (by omega)⟩
          rcases Hbr.out with hr | ⟨h, boff, rfl, _, hl, hcb⟩
          · subst hr; simp at hj
          have D0 := keeps HB2.out ((B.out.cell (p := ⟨h, boff + m * 2, Option.none⟩) hl).trans (hcb m b hb).1)
          have D1 := keeps HB2.out ((B.out.cell (p := ⟨h, boff + m * 2 + 1, Option.none⟩) hl).trans (hcb m b hb).2)
          have E0 := keeps HB2.out C0.out
          have E1 := keeps HB2.out C1.out
          have hmI : (m : Int) < (bs.length : Int) := by omega
          have hm0 : ¬ (m : Int) < 0 := by omega
          have hmw : IntKind.i64.wrap (m : Int) = (m : Int) := wrap_small _ (by omega) (by omega)
          have hkw : IntKind.i64.wrap (k : Int) = (k : Int) := wrap_small _ (by omega) (by omega)
          clear hcb hx
          by_cases he : b.s = t.s
          · have R : Hid (affAt8 c ts bs = affGo8 (withN bs fun _ => 0) (IntKind.i64.wrap (a + IntKind.i64.wrap (t.n * b.n))) (ts.drop (k + 1)) ∧ -9223372036854775808 ≤ IntKind.i64.wrap (a + IntKind.i64.wrap (t.n * b.n)) ∧ IntKind.i64.wrap (a + IntKind.i64.wrap (t.n * b.n)) ≤ 9223372036854775807) := by
              refine ⟨?_, wrap_rng8 _⟩
              rw [hg.out.1, drop8 HT.out]
              show affGo8 _ (IntKind.i64.wrap (a + IntKind.i64.wrap (t.n * withN bs (fun _ => 0) t.s))) _ = _
              rw [withN_hit hbd.out hb he]
            have R := (show Hid (affAt8 c ts bs = affGo8 (withN bs fun _ => 0) (wrap64 (a + wrap64 (t.n * b.n))) (ts.drop (k + 1)) ∧ -9223372036854775808 ≤ wrap64 (a + wrap64 (t.n * b.n)) ∧ wrap64 (a + wrap64 (t.n * b.n)) ≤ 9223372036854775807) from (by have h := R.out; rw [wrapE8, wrapE8] at h; exact h))
            clear hb
            rw [he] at D0
            clear he
            go_wp2_with fail
            go_quiet (fail)
            go_wp2_with fail
            go_quiet (fail)
            go_wp2
            go_roundw
            case rel => exact ⟨k + 1, _, by omega, by go_num, rfl, ⟨R.out.1, R.out.2⟩, belowD8 HB2.out _⟩
            case measure => simp [RowKit.intOf]; omega
          · have R := Lib.hid (withN_go hbd.out hb he)
            have hne := str_ne he
            clear hb he
            go_wp2_with fail
            go_quiet (fail)
            go_wp2
            go_roundw
            case rel => exact ⟨m, _, by omega, rfl, rfl, rfl, R, belowD8 HB2.out _⟩
            case measure => simp [RowKit.intOf]
    · have he : Hid (affAt8 c ts bs = a) := by show affAt8 c ts bs = a; rw [hg.out.1, List.drop_of_length_le (by omega)]; rfl
      go_wp2
      go_ret
      exact retI he.out.symm (B.out.trans (HB.out.mono B.out.size))
end Go.Proofs.Ytjdpddcnogdekab
