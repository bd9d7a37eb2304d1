/-
  The contracts of AffOk, the landed code's and the specification's, and of what both call.
-/
import Derived.Test.YtjdpddcnogdekaaGreatP15ofMx
import Derived.Test.YtjdpddcnogdekaaGreatP10ofMx
import Derived.Test.YtjdpddcnogdekaaGreatP07ofMx
import Derived.Deep.QuietTactic
import Derived.BigQuiet
namespace Go.Proofs.YtjdpddcnogdekaaGreat
open Go.RowKit Go.Lib
set_option linter.unusedSimpArgs false
set_option linter.unusedVariables false

theorem coefOk_is (n : Int) (v : Bool) (hv : inMax8 n = v) (w : World) : Calls Tryz.prog 62 #[.int .i64 n] w fun e w' => e = .returned (.bool v) ∧ w = w' := by
  subst hv
  by_cases h1 : -100000 ≤ n
  · by_cases h2 : n ≤ 100000
    all_goals
      go_enter Tryz.func62, Tryz.ntmps62
      go_wp2
      go_ret
      exact ⟨ret_bool (by simp [inMax8, h1, h2]), rfl⟩
  · go_enter Tryz.func62, Tryz.ntmps62
    go_wp2
    go_ret
    exact ⟨ret_bool (by have h0 : decide ((-100000 : Int) ≤ n) = false := decide_eq_false (by omega); unfold inMax8; rw [h0]; rfl), rfl⟩
theorem l8Num_is (n : Int) (v : Bool) (hv : inMax8 n = v) (w : World) : Calls Tryz.prog 74 #[.int .i64 n] w fun e w' => e = .returned (.bool v) ∧ w = w' := by
  go_enter Tryz.func74, Tryz.ntmps74
  go_wp2_with (go_at_call 38; refine (In_is _ _ _ v hv _).mono ?_; rintro e w' ⟨rfl, rfl⟩)
  go_ret
  exact ⟨rfl, rfl⟩
theorem belowN8 {B : Nat} {w w' : World} (h : Below B w w') (n : Nat) : Below B w (w'.drewN n) := ⟨h.os, h.tape, h.output, h.size, h.block⟩
theorem geq8 {a b : ByteArray} (h : blt a b = true) : Op.bytesLess a.toList b.toList = true := h
/-- What makes one of the terms wrong, or none. -/
theorem term8_cases (p : Option ByteArray) (t : AR) :
    (nameOk t.s.data.toList = false ∧ termOk8 p t = false) ∨ (nameOk t.s.data.toList = true ∧ t.n = 0 ∧ termOk8 p t = false) ∨
    (nameOk t.s.data.toList = true ∧ (t.n == 0) = false ∧ inMax8 t.n = false ∧ termOk8 p t = false) ∨
    (nameOk t.s.data.toList = true ∧ (t.n == 0) = false ∧ inMax8 t.n = true ∧ ltPrev8 p t.s = false ∧ termOk8 p t = false) ∨
    (nameOk t.s.data.toList = true ∧ (t.n == 0) = false ∧ inMax8 t.n = true ∧ ltPrev8 p t.s = true ∧ termOk8 p t = true) := by
  cases h1 : nameOk t.s.data.toList with
  | false => exact .inl ⟨rfl, by simp [termOk8, h1]⟩
  | true =>
    cases h2 : t.n == 0 with
    | true => exact .inr (.inl ⟨rfl, by simpa using h2, by simp [termOk8, h2]⟩)
    | false =>
      cases h3 : inMax8 t.n with
      | false => exact .inr (.inr (.inl ⟨rfl, rfl, rfl, by simp [termOk8, h3]⟩))
      | true =>
        cases h4 : ltPrev8 p t.s with
        | false => exact .inr (.inr (.inr (.inl ⟨rfl, rfl, rfl, rfl, by simp [termOk8, h4]⟩)))
        | true => exact .inr (.inr (.inr (.inr ⟨rfl, rfl, rfl, rfl, by simp [termOk8, h1, h2, h3, h4]⟩)))
set_option maxHeartbeats 2000000 in
set_option maxRecDepth 100000 in
theorem impl_AffOk (c : Int) (ts : List AR) (hn : ts.length ≤ 1000000000) (va : Value) (w : World) (ha : AV w 0 va ts) (v : Bool) (hv : affOk8 c ts = v) :
    Calls Tryz.prog 40 #[.agg #[.int .i64 c, va]] w fun e w' => e = .returned (.bool v) ∧ Below w.heap.size w w' := by
  subst hv
  obtain ⟨ao, cap, rfl, hr⟩ := ha
  have Hr := Lib.hid hr
  clear hr
  have hc0 : (w.alloc (.cells #[.int .i64 c, .slice ao ts.length cap] 26)).cell? ⟨w.heap.size, 0, Option.none⟩ = some (.int .i64 c) := box_cell (Below.refl _ _) rfl
  have hc1 : (w.alloc (.cells #[.int .i64 c, .slice ao ts.length cap] 26)).cell? ⟨w.heap.size, 1, Option.none⟩ = some (.slice ao ts.length cap) := box_cell (Below.refl _ _) rfl
  have B := Lib.hid (alloc_below w (.cells #[.int .i64 c, .slice ao ts.length cap] 26))
  have BX := Lib.hid (fun w1 (hb : Below (w.alloc (.cells #[.int .i64 c, .slice ao ts.length cap] 26)).heap.size (w.alloc (.cells #[.int .i64 c, .slice ao ts.length cap] 26)) w1) => (box_cell hb rfl : w1.cell? ⟨w.heap.size, 1, Option.none⟩ = some (.slice ao ts.length cap)))
  cases hm : inMax8 c with
  | false =>
    have Hm := Lib.hid hm
    have HV : Hid (affOk8 c ts = false) := show affOk8 c ts = false by simp [affOk8, hm]
    clear hm
    go_enter Tryz.func40, Tryz.ntmps40
    go_wp2_with fail
    refine (coefOk_is c false Hm.out _).mono ?_
    rintro e w1 ⟨rfl, rfl⟩
    go_wp2
    go_ret
    exact ⟨ret_bool HV.out.symm, B.out⟩
  | true =>
    have Hm := Lib.hid hm
    have HV : Hid (affOk8 c ts = okFrom8 none ts) := show affOk8 c ts = okFrom8 none ts by simp [affOk8, hm]
    clear hm
    go_enter Tryz.func40, Tryz.ntmps40
    go_wp2_with fail
    refine (coefOk_is c true Hm.out _).mono ?_
    rintro e w1 ⟨rfl, rfl⟩
    go_wp2
    go_loopw [12] (fun i wr => ∃ k : Nat, k ≤ ts.length ∧ i = .int .i64 k ∧ Hid (affOk8 c ts = okFrom8 (prev8 ts k) (ts.drop k)) ∧ Hid (Below (w.alloc (.cells #[.int .i64 c, .slice ao ts.length cap] 26)).heap.size (w.alloc (.cells #[.int .i64 c, .slice ao ts.length cap] 26)) wr)) (fun i _ => ts.length - (RowKit.intOf i).toNat)
    case atStart => exact ⟨0, by omega, rfl, HV.out, Below.refl _ _⟩
    case round =>
      obtain ⟨k, hk, rfl, hg, HB⟩ := hrel
      by_cases hlt : k < ts.length
      · have hltI : (k : Int) < (ts.length : Int) := by omega
        obtain ⟨t, ht⟩ : ∃ t, ts[k]? = some t := ⟨ts[k], List.getElem?_eq_getElem hlt⟩
        rcases Hr.out with hr | ⟨g, off, rfl, _, gl, hc⟩
        · subst hr; simp at hlt
        have hbw := below_alloc HB.out
        have A0 := (hbw.cell (p := ⟨g, off + k * 2, Option.none⟩) gl).trans (hc k t ht).1
        have A1 := (hbw.cell (p := ⟨g, off + k * 2 + 1, Option.none⟩) gl).trans (hc k t ht).2
        have X1 := BX.out wr HB.out
        have hd : Hid (ts.drop k = t :: ts.drop (k + 1)) := drop8 ht
        have HT := Lib.hid ht
        have HC := Lib.hid hc
        have hw1 : w.heap.size < wr.heap.size := by have := HB.out.size; simp at this; omega
        have hgw : g < wr.heap.size := Nat.lt_of_lt_of_le gl hbw.size
        clear hc ht hc0 hc1
        rcases term8_cases (prev8 ts k) t with ⟨c1, cb⟩ | ⟨c1, c2, cb⟩ | ⟨c1, c2, c3, cb⟩ | ⟨c1, c2, c3, c4, cb⟩ | ⟨c1, c2, c3, c4, cb⟩
        · have C1 := Lib.hid c1
          have R : Hid (affOk8 c ts = false) := show affOk8 c ts = false by rw [hg.out, hd.out, okFrom8_bad cb]
          clear c1 cb
          go_wp2_with (go_at_call 45; refine (impl_NameOk t.s false C1.out _).mono ?_; rintro e w2 ⟨rfl, hb2⟩)
          go_ret
          exact ⟨ret_bool R.out.symm, hbw.trans ((below_alloc hb2).mono hbw.size)⟩
        · have C1 := Lib.hid c1
          have R : Hid (affOk8 c ts = false) := show affOk8 c ts = false by rw [hg.out, hd.out, okFrom8_bad cb]
          obtain ⟨ts', tn⟩ := t
          simp only at c2
          subst c2
          clear c1 cb
          go_wp2_with fail
          refine (impl_NameOk ts' true C1.out _).mono ?_
          rintro e w2 ⟨rfl, hb2⟩
          obtain ⟨⟨q0, q1⟩, _, _⟩ := blk2 ((hb2.block wr.heap.size (by simp)).trans (heap_last wr _))
          go_wp2
          go_ret
          exact ⟨ret_bool R.out.symm, hbw.trans ((below_alloc hb2).mono hbw.size)⟩
        · have C1 := Lib.hid c1
          have C3 := Lib.hid c3
          have R : Hid (affOk8 c ts = false) := show affOk8 c ts = false by rw [hg.out, hd.out, okFrom8_bad cb]
          clear c1 c3 cb
          go_wp2_with fail
          refine (impl_NameOk t.s true C1.out _).mono ?_
          rintro e w2 ⟨rfl, hb2⟩
          obtain ⟨⟨q0, q1⟩, _, _⟩ := blk2 ((hb2.block wr.heap.size (by simp)).trans (heap_last wr _))
          go_wp2_with fail
          refine (coefOk_is t.n false C3.out _).mono ?_
          rintro e w3 ⟨rfl, rfl⟩
          go_wp2
          go_ret
          exact ⟨ret_bool R.out.symm, hbw.trans ((below_alloc hb2).mono hbw.size)⟩
        · have C1 := Lib.hid c1
          have C3 := Lib.hid c3
          have R : Hid (affOk8 c ts = false) := show affOk8 c ts = false by rw [hg.out, hd.out, okFrom8_bad cb]
          clear c1 c3 cb
          obtain ⟨j, rfl⟩ : ∃ j, k = j + 1 := by
            cases k with
            | zero => cases c4
            | succ j => exact ⟨j, rfl⟩
          obtain ⟨u, hu⟩ : ∃ u, ts[j]? = some u := ⟨ts[j], List.getElem?_eq_getElem (by omega)⟩
          rw [prev8_succ hu] at c4
          have c5 : Op.bytesLess u.s.toList t.s.toList = false := c4
          have D0 := (hbw.cell (p := ⟨g, off + j * 2, Option.none⟩) gl).trans (HC.out j u hu).1
          clear hu c4
          go_wp2_with fail
          refine (impl_NameOk t.s true C1.out _).mono ?_
          rintro e w2 ⟨rfl, hb2⟩
          obtain ⟨⟨q0, q1⟩, _, _⟩ := blk2 ((hb2.block wr.heap.size (by simp)).trans (heap_last wr _))
          go_wp2_with fail
          refine (coefOk_is t.n true C3.out _).mono ?_
          rintro e w3 ⟨rfl, rfl⟩
          have hb3 := below_alloc hb2
          have D2 := (hb3.cell (p := ⟨g, off + j * 2, Option.none⟩) hgw).trans D0
          have Y1 := (hb3.cell (p := ⟨w.heap.size, 1, Option.none⟩) hw1).trans X1
          have e1 : IntKind.i64.wrap (((j + 1 : Nat) : Int) - 1) = (j : Int) := by rw [IntKind.wrap_i64]; omega
          have e2 : decide (((j + 1 : Nat) : Int) > 0) = true := decide_eq_true (by omega)
          have e3 : (j : Int) < (ts.length : Int) := by omega
          have e4 : (0 : Int) ≤ (j : Int) := by omega
          have HN := Lib.hid (hbw.trans (hb3.mono hbw.size))
          clear D0 X1 A0 A1 hb2 hb3
          go_wp2_with fail
          go_quiet (fail)
          go_wp2
          go_ret
          exact ⟨ret_bool R.out.symm, belowN8 HN.out _⟩
        · have C1 := Lib.hid c1
          have C3 := Lib.hid c3
          have R : Hid (affOk8 c ts = okFrom8 (prev8 ts (k + 1)) (ts.drop (k + 1))) := show affOk8 c ts = okFrom8 (prev8 ts (k + 1)) (ts.drop (k + 1)) by rw [hg.out, hd.out, okFrom8_good cb, prev8_succ HT.out]
          clear c1 c3 cb
          rcases Nat.eq_zero_or_pos k with hk0 | hk0
          · have e2 : decide ((k : Int) > 0) = false := decide_eq_false (by omega)
            have e2' : decide (0 < k) = false := decide_eq_false (by omega)
            have e2'' : decide ((0 : Int) < (k : Int)) = false := decide_eq_false (by omega)
            clear hk0 c4
            go_wp2_with fail
            refine (impl_NameOk t.s true C1.out _).mono ?_
            rintro e w2 ⟨rfl, hb2⟩
            obtain ⟨⟨q0, q1⟩, _, _⟩ := blk2 ((hb2.block wr.heap.size (by simp)).trans (heap_last wr _))
            go_wp2_with fail
            refine (coefOk_is t.n true C3.out _).mono ?_
            rintro e w3 ⟨rfl, rfl⟩
            have HN := Lib.hid (HB.out.trans ((below_alloc hb2).mono HB.out.size))
            clear X1 A0 A1 hb2
            go_wp2_with fail
            go_quiet (fail)
            go_wp2
            go_roundw
            case rel => exact ⟨k + 1, by omega, by go_num, R.out, belowN8 HN.out _⟩
            case measure => simp [RowKit.intOf]; omega
          · obtain ⟨j, rfl⟩ : ∃ j, k = j + 1 := ⟨k - 1, by omega⟩
            obtain ⟨u, hu⟩ : ∃ u, ts[j]? = some u := ⟨ts[j], List.getElem?_eq_getElem (by omega)⟩
            rw [prev8_succ hu] at c4
            have c5 : Op.bytesLess u.s.toList t.s.toList = true := c4
            have D0 := (hbw.cell (p := ⟨g, off + j * 2, Option.none⟩) gl).trans (HC.out j u hu).1
            clear hu c4
            go_wp2_with fail
            refine (impl_NameOk t.s true C1.out _).mono ?_
            rintro e w2 ⟨rfl, hb2⟩
            obtain ⟨⟨q0, q1⟩, _, _⟩ := blk2 ((hb2.block wr.heap.size (by simp)).trans (heap_last wr _))
            go_wp2_with fail
            refine (coefOk_is t.n true C3.out _).mono ?_
            rintro e w3 ⟨rfl, rfl⟩
            have hb3 := below_alloc hb2
            have D2 := (hb3.cell (p := ⟨g, off + j * 2, Option.none⟩) hgw).trans D0
            have Y1 := (hb3.cell (p := ⟨w.heap.size, 1, Option.none⟩) hw1).trans X1
            have e1 : IntKind.i64.wrap (((j + 1 : Nat) : Int) - 1) = (j : Int) := by rw [IntKind.wrap_i64]; omega
            have e2 : decide (((j + 1 : Nat) : Int) > 0) = true := decide_eq_true (by omega)
            have e3 : (j : Int) < (ts.length : Int) := by omega
            have e4 : (0 : Int) ≤ (j : Int) := by omega
            have HN := Lib.hid (HB.out.trans (hb3.mono HB.out.size))
            clear D0 X1 A0 A1 hb2 hb3
            go_wp2_with fail
            go_quiet (fail)
            go_wp2
            go_roundw
            case rel => exact ⟨j + 1 + 1, by omega, by go_num, R.out, belowN8 HN.out _⟩
            case measure => simp [RowKit.intOf]; omega
      · have he2 : Hid (affOk8 c ts = true) := by show affOk8 c ts = true; rw [hg.out, List.drop_of_length_le (by omega)]; cases prev8 ts k <;> rfl
        go_wp2
        go_ret
        exact ⟨ret_bool he2.out.symm, below_alloc HB.out⟩
end Go.Proofs.YtjdpddcnogdekaaGreat
