/-
  Texts in one: AffAtS, MtAtV.
-/
import Derived.Test.YtjdpddcnogdekabP48ofMa
import Derived.Deep.QuietTactic
import Derived.BigQuiet
import Derived.Test.YtjdpddcnogdekabP49ofMa
import Derived.Test.YtjdpddcnogdekabBoxOkS
import Derived.Test.YtjdpddcnogdekabEndS
/-
  The contract of the specification's AffAt.
-/
namespace Go.Proofs.Ytjdpddcnogdekab
open Go.RowKit Go.Lib
set_option linter.unusedSimpArgs false
set_option linter.unusedVariables false

theorem belowD8 {B : Nat} {w w' : World} (h : Below B w w') (n : Nat) : Below B w (w'.drewN n) := ⟨h.os, h.tape, h.output, h.size, h.block⟩
theorem withN_hit {bs : List AR} {s : ByteArray} {j : Nat} {b : AR} (h : bindOf bs.reverse s = bindOf (bs.take (j + 1)).reverse s) (hb : bs[j]? = some b) (he : b.s = s) : withN bs (fun _ => 0) s = b.n := by
  rw [withN, h, take_snocA hb, List.reverse_append]
  simp [bindOf, he]
theorem withN_go {bs : List AR} {s : ByteArray} {j : Nat} {b : AR} (h : bindOf bs.reverse s = bindOf (bs.take (j + 1)).reverse s) (hb : bs[j]? = some b) (he : ¬ b.s = s) : bindOf bs.reverse s = bindOf (bs.take j).reverse s := by
  rw [h, take_snocA hb, List.reverse_append]
  simp [bindOf, he]
theorem withN_miss {bs : List AR} {s : ByteArray} (h : bindOf bs.reverse s = bindOf (bs.take 0).reverse s) : withN bs (fun _ => 0) s = 0 := by
  rw [withN, h]; rfl
theorem wrap_in8 (a : Int) (h : -9223372036854775808 ≤ a ∧ a ≤ 9223372036854775807) (n : Int) : IntKind.i64.wrap (a + IntKind.i64.wrap (n * 0)) = a := by
  rw [Int.mul_zero, wrap_small 0 (by omega) (by omega), Int.add_zero, IntKind.wrap_i64]; omega
theorem wrapE8 (x : Int) : IntKind.i64.wrap x = wrap64 x := by rw [IntKind.wrap_i64]; unfold wrap64; omega
theorem wrap_rng8 (a : Int) : -9223372036854775808 ≤ IntKind.i64.wrap a ∧ IntKind.i64.wrap a ≤ 9223372036854775807 := by rw [IntKind.wrap_i64]; omega
set_option maxHeartbeats 4000000 in
set_option maxRecDepth 100000 in
theorem spec_AffAt (c : Int) (ts : List AR) (hn : ts.length ≤ 1000000000) (hc : -9223372036854775808 ≤ c ∧ c ≤ 9223372036854775807) (bs : List AR) (hbn : bs.length ≤ 100000000) (va vb : Value) (w : World) (ha : AV w 0 va ts) (hb : AV w 0 vb bs) :
    Calls Try.prog 41 #[.agg #[.int .i64 c, va], vb] w fun e w' => e = .returned (.int .i64 (affAt8 c ts bs)) ∧ Below w.heap.size w w' := by
  obtain ⟨ao, cap, rfl, hr⟩ := ha
  obtain ⟨bo, bcap, rfl, hbr⟩ := hb
  have Hr := Lib.hid hr
  have Hbr := Lib.hid hbr
  have Hc := Lib.hid hc
  clear hr hbr hc
  have hbI : (bs.length : Int) ≤ 100000000 := by omega
  obtain ⟨w0, hw0⟩ : ∃ w0, w.alloc (.cells #[.int .i64 c, .slice ao ts.length cap] 30) = w0 := ⟨_, rfl⟩
  have B : Hid (Below w.heap.size w w0) := hw0 ▸ alloc_below w (.cells #[.int .i64 c, .slice ao ts.length cap] 30)
  have R0 : Hid (w0.cell? ⟨w.heap.size, 0, Option.none⟩ = some (.int .i64 c)) := hw0 ▸ box_cell (Below.refl _ _) rfl
  have R1 : Hid (w0.cell? ⟨w.heap.size, 1, Option.none⟩ = some (.slice ao ts.length cap)) := hw0 ▸ box_cell (i := 1) (Below.refl _ _) rfl
  have c0 := R0.out
  have HW0 := Lib.hid hw0
  clear hw0
  go_enter Try.func41, Try.ntmps41
  go_wp2_with fail
  rw [HW0.out]
  go_wp2
  go_loopw [5, 6] (fun x i wr => ∃ (k : Nat) (a : Int), k ≤ ts.length ∧ i = .int .i64 k ∧ x = .int .i64 a ∧ Hid (affAt8 c ts bs = affGo8 (withN bs fun _ => 0) a (ts.drop k) ∧ -9223372036854775808 ≤ a ∧ a ≤ 9223372036854775807) ∧ Hid (Below w0.heap.size w0 wr)) (fun _ i _ => ts.length - (RowKit.intOf i).toNat)
  case atStart => exact ⟨0, c, by omega, rfl, rfl, ⟨rfl, Hc.out⟩, Below.refl _ _⟩
  case round =>
    obtain ⟨k, a, hk, rfl, rfl, hg, HB⟩ := hrel
    clear c0
    have c1 := keeps HB.out R1.out
    by_cases hlt : k < ts.length
    · have hltI : (k : Int) < (ts.length : Int) := by omega
      obtain ⟨t, ht⟩ : ∃ t, ts[k]? = some t := ⟨ts[k], List.getElem?_eq_getElem hlt⟩
      rcases Hr.out with hr | ⟨g, off, rfl, _, gl, hc⟩
      · subst hr; simp at hlt
      have C0 := Lib.hid ((B.out.cell (p := ⟨g, off + k * 2, Option.none⟩) gl).trans (hc k t ht).1)
      have C1 := Lib.hid ((B.out.cell (p := ⟨g, off + k * 2 + 1, Option.none⟩) gl).trans (hc k t ht).2)
      have HT := Lib.hid ht
      clear hc ht
      go_wp2
      go_loopw [5, 7] (fun z i wi => ∃ (j : Nat) (x : Int), j ≤ bs.length ∧ z = .int .i64 a ∧ i = .int .i64 x ∧ x = (j : Int) - 1 ∧ Hid (bindOf bs.reverse t.s = bindOf (bs.take j).reverse t.s) ∧ Hid (Below w0.heap.size w0 wi)) (fun _ i _ => (RowKit.intOf i + 1).toNat)
      case atStart => exact ⟨bs.length, _, Nat.le_refl _, rfl, rfl, by omega, (by show bindOf bs.reverse t.s = bindOf (bs.take bs.length).reverse t.s; rw [List.take_length]), HB⟩
      case round =>
        obtain ⟨j, x, hj, rfl, rfl, hx, hbd, HB2⟩ := hrel
        clear c1
        have d1 := keeps HB2.out R1.out
        cases j with
        | zero =>
          have hxn : x < 0 := by omega
          have R : Hid (affAt8 c ts bs = affGo8 (withN bs fun _ => 0) a (ts.drop (k + 1)) ∧ -9223372036854775808 ≤ a ∧ a ≤ 9223372036854775807) := by
            refine ⟨?_, hg.out.2⟩
            rw [hg.out.1, drop8 HT.out]
            show affGo8 _ (IntKind.i64.wrap (a + IntKind.i64.wrap (t.n * withN bs (fun _ => 0) t.s))) _ = _
            rw [withN_miss hbd.out, wrap_in8 a hg.out.2]
          clear hx
          go_wp2
          go_roundw
          case rel => exact ⟨k + 1, a, by omega, by go_num, rfl, R, HB2⟩
          case measure => simp [RowKit.intOf]; omega
        | succ m =>
          obtain rfl : x = (m : Int) := by omega
          obtain ⟨b, hb⟩ : ∃ b, bs[m]? = some b := ⟨bs[m], List.getElem?_eq_getElem (by omega)⟩
          rcases Hbr.out with hr | ⟨h, boff, rfl, _, hl, hcb⟩
          · subst hr; simp at hj
          have D0 := keeps HB2.out ((B.out.cell (p := ⟨h, boff + m * 2, Option.none⟩) hl).trans (hcb m b hb).1)
          have D1 := keeps HB2.out ((B.out.cell (p := ⟨h, boff + m * 2 + 1, Option.none⟩) hl).trans (hcb m b hb).2)
          have E0 := keeps HB2.out C0.out
          have E1 := keeps HB2.out C1.out
          have hmI : (m : Int) < (bs.length : Int) := by omega
          have hm0 : ¬ (m : Int) < 0 := by omega
          have hmw : IntKind.i64.wrap (m : Int) = (m : Int) := wrap_small _ (by omega) (by omega)
          have hkw : IntKind.i64.wrap (k : Int) = (k : Int) := wrap_small _ (by omega) (by omega)
          clear hcb hx
          by_cases he : b.s = t.s
          · have R : Hid (affAt8 c ts bs = affGo8 (withN bs fun _ => 0) (IntKind.i64.wrap (a + IntKind.i64.wrap (t.n * b.n))) (ts.drop (k + 1)) ∧ -9223372036854775808 ≤ IntKind.i64.wrap (a + IntKind.i64.wrap (t.n * b.n)) ∧ IntKind.i64.wrap (a + IntKind.i64.wrap (t.n * b.n)) ≤ 9223372036854775807) := by
              refine ⟨?_, wrap_rng8 _⟩
              rw [hg.out.1, drop8 HT.out]
              show affGo8 _ (IntKind.i64.wrap (a + IntKind.i64.wrap (t.n * withN bs (fun _ => 0) t.s))) _ = _
              rw [withN_hit hbd.out hb he]
            have R := (show Hid (affAt8 c ts bs = affGo8 (withN bs fun _ => 0) (wrap64 (a + wrap64 (t.n * b.n))) (ts.drop (k + 1)) ∧ -9223372036854775808 ≤ wrap64 (a + wrap64 (t.n * b.n)) ∧ wrap64 (a + wrap64 (t.n * b.n)) ≤ 9223372036854775807) from (by have h := R.out; rw [wrapE8, wrapE8] at h; exact h))
            clear hb
            rw [he] at D0
            clear he
            go_wp2_with fail
            go_quiet (fail)
            go_wp2_with fail
            go_quiet (fail)
            go_wp2
            go_roundw
            case rel => exact ⟨k + 1, _, by omega, by go_num, rfl, ⟨R.out.1, R.out.2⟩, belowD8 HB2.out _⟩
            case measure => simp [RowKit.intOf]; omega
          · have R := Lib.hid (withN_go hbd.out hb he)
            have hne := str_ne he
            clear hb he
            go_wp2_with fail
            go_quiet (fail)
            go_wp2
            go_roundw
            case rel => exact ⟨m, _, by omega, rfl, rfl, rfl, R, belowD8 HB2.out _⟩
            case measure => simp [RowKit.intOf]
    · have he : Hid (affAt8 c ts bs = a) := by show affAt8 c ts bs = a; rw [hg.out.1, List.drop_of_length_le (by omega)]; rfl
      go_wp2
      go_ret
      exact retI he.out.symm (B.out.trans (HB.out.mono B.out.size))
end Go.Proofs.Ytjdpddcnogdekab
/-
  All other names at every place of theirs: how many ways that are; a bind put ahead of the others.
-/
namespace Go.Proofs.Ytjdpddcnogdekab
open Go.RowKit Go.Lib
set_option linter.unusedSimpArgs false
set_option linter.unusedVariables false

theorem prodS_no {s : ByteArray} : ∀ {rs : List RG}, (∀ r ∈ rs, ¬ r.s = s) → prodS11 s rs = prodR11 rs
  | [], _ => rfl
  | r :: rs, h => by rw [prodS11, prodR11, if_neg (h r (by simp)), prodS_no (fun t ht => h t (by simp [ht]))]
theorem prodS_yes {s : ByteArray} : ∀ {rs : List RG} {j : Nat} {r : RG}, Dist9 rs → rs[j]? = some r → r.s = s → prodR11 rs = cnt11 r * prodS11 s rs
  | [], j, r, _, h, _ => by simp at h
  | r0 :: rs, 0, r, hd, h, e => by
    obtain rfl : r0 = r := by simpa using h
    obtain ⟨hd1, hd2⟩ := List.pairwise_cons.1 hd
    rw [prodR11, prodS11, if_pos e, prodS_no (fun t ht e2 => hd1 t ht (by rw [e, e2]))]
  | r0 :: rs, j + 1, r, hd, h, e => by
    obtain ⟨hd1, hd2⟩ := List.pairwise_cons.1 hd
    have h2 : rs[j]? = some r := by simpa using h
    have hn : ¬ r0.s = s := fun e2 => hd1 r (List.mem_of_getElem? h2) (by rw [e, e2])
    rw [prodR11, prodS11, if_neg hn, prodS_yes hd2 h2 e, Nat.mul_left_comm]
theorem hasR_no {s : ByteArray} {rs : List RG} (h : hasR9 rs s = false) : ∀ r ∈ rs, ¬ r.s = s := by
  intro r hr e
  have : hasR9 rs s = true := by rw [hasR9, List.any_eq_true]; exact ⟨r, hr, by simp [e]⟩
  rw [h] at this; cases this
theorem rg9_name {s : ByteArray} {rs : List RG} (h : hasR9 rs s = true) : (rg9 rs s).s = s := by
  rw [hasR9, List.any_eq_true] at h
  obtain ⟨r, hr, he⟩ := h
  rw [rg9]
  cases hh : rs.find? fun r => decide (r.s = s) with
  | none => have := List.find?_eq_none.1 hh r hr; simp at he; simp [he] at this
  | some x => have := List.find?_some hh; simpa using this
theorem rounds_told {rs : List RG} (h : told11 rs = true) : rounds9 rs = (prodR11 rs : Int) := by
  obtain ⟨hw, _⟩ := told_prod h
  simp only [told11, Bool.and_eq_true, decide_eq_true_eq] at h
  rw [rounds9, if_pos hw] at h ⊢
  have := ways_prod rs 1 (fit_of hw) (by omega) (by omega) h.2
  omega
theorem split_has {rs : List RG} {s : ByteArray} (h : told11 rs = true) (hs : hasR9 rs s = true) : ∃ (j : Nat) (r : RG), rs[j]? = some r ∧ r.s = s ∧ at9 rs 0 s = (j : Int) ∧ rounds9 rs = (r.hi - r.lo + 1) * (prodS11 s rs : Int) ∧ 1 ≤ r.hi - r.lo + 1 ∧ r.hi - r.lo + 1 ≤ 20001 ∧ (prodS11 s rs : Int) ≤ 600 := by
  obtain ⟨j, h1, h2⟩ := at9_find s rs 0 hs
  have hw := (told_prod h).1
  have hp := prodS_yes (dist_of hw) h1 (rg9_name hs)
  obtain ⟨f1, f2, _⟩ := fit_of hw _ (List.mem_of_getElem? h1)
  have hc : ((cnt11 (rg9 rs s) : Nat) : Int) = (rg9 rs s).hi - (rg9 rs s).lo + 1 := by unfold cnt11; omega
  have hc1 : 1 ≤ cnt11 (rg9 rs s) := by omega
  have hle : prodS11 s rs ≤ prodR11 rs := by rw [hp]; exact Nat.le_mul_of_pos_left _ hc1
  have h6 := (told_prod h).2
  refine ⟨j, _, h1, rg9_name hs, by rw [h2]; simp, ?_, f1, f2, by omega⟩
  rw [rounds_told h, hp, Int.natCast_mul, hc]
theorem split_no {rs : List RG} {s : ByteArray} (h : told11 rs = true) (hs : hasR9 rs s = false) : at9 rs 0 s = -1 ∧ rounds9 rs = (prodS11 s rs : Int) ∧ (prodS11 s rs : Int) ≤ 600 := by
  have h6 := (told_prod h).2
  rw [rounds_told h, prodS_no (hasR_no hs)]
  exact ⟨at9_no s rs 0 hs, rfl, by omega⟩
theorem at9_iff {rs : List RG} {s : ByteArray} (h : told11 rs = true) {j : Nat} {r : RG} (hj : rs[j]? = some r) : (j : Int) = at9 rs 0 s ↔ r.s = s := by
  cases hs : hasR9 rs s with
  | false =>
    rw [(split_no h hs).1]
    exact ⟨fun e => by omega, fun e => absurd e (hasR_no hs r (List.mem_of_getElem? hj))⟩
  | true =>
    obtain ⟨j0, r0, h0, h1, h2, _⟩ := split_has h hs
    rw [h2]
    constructor
    · intro e
      obtain rfl : j = j0 := by omega
      rw [hj] at h0; injection h0 with h0; rw [h0]; exact h1
    · intro e
      have hd := List.pairwise_iff_getElem.1 (dist_of (told_prod h).1)
      obtain ⟨l1, e1⟩ := List.getElem?_eq_some_iff.1 hj
      obtain ⟨l2, e2⟩ := List.getElem?_eq_some_iff.1 h0
      rcases Nat.lt_trichotomy j j0 with hl | hl | hl
      · exact absurd (by rw [e1, e2, e, h1]) (hd j j0 l1 l2 hl)
      · omega
      · exact absurd (by rw [e1, e2, e, h1]) (hd j0 j l2 l1 hl)
theorem drop_one11 {rs : List RG} {j : Nat} {r : RG} (h : rs[j]? = some r) : rs.drop j = r :: rs.drop (j + 1) := by
  obtain ⟨l, e⟩ := List.getElem?_eq_some_iff.1 h
  rw [List.drop_eq_getElem_cons l, e]
theorem binds_hit {s : ByteArray} {rs : List RG} {j y : Nat} {bs : List AR} {r : RG} (h : rs[j]? = some r) (e : r.s = s) : bindsGo11 s (rs.drop j) y bs = bindsGo11 s (rs.drop (j + 1)) y bs := by
  rw [drop_one11 h, bindsGo11, if_pos e]
theorem binds_go {s : ByteArray} {rs : List RG} {j y : Nat} {bs : List AR} {r : RG} (h : rs[j]? = some r) (e : ¬ r.s = s) : bindsGo11 s (rs.drop j) y bs = bindsGo11 s (rs.drop (j + 1)) (y / cnt11 r) (⟨r.s, r.lo + ((y % cnt11 r : Nat) : Int)⟩ :: bs) := by
  rw [drop_one11 h, bindsGo11, if_neg e]
theorem binds_end {s : ByteArray} {rs : List RG} {y : Nat} {bs : List AR} : bindsGo11 s (rs.drop rs.length) y bs = bs := by
  rw [List.drop_length]; rfl
theorem AV.ofOwnB11 {w : World} {B n c : Nat} {a : Option Addr} {ts : List AR} (h : w.ownsRow B 70 2 (.slice a n c) ts.length (acells ts)) : AV w 0 (.slice a n c) ts := by
  rcases h.2 with ⟨h0, h1⟩ | ⟨g, cap, cur, h1, h2, h3, h4⟩
  · have : ts = [] := List.length_eq_zero_iff.1 h1
    subst this
    exact ⟨_, _, h0, .inl rfl⟩
  · have hc := h.cells (g := g) (by rw [h1]; rfl)
    refine ⟨_, cap, h1, .inr ⟨g, 0, rfl, Nat.zero_le _, (Array.getElem?_eq_some_iff.1 h3).1, fun i t hi => ?_⟩⟩
    have hg := acells_get ts i t hi
    have e : ∀ j, (⟨g, 0, Option.none⟩ : Addr).add j = ⟨g, j, Option.none⟩ := fun j => by simp [Addr.add]; omega
    have a := hc _ _ hg.1; have b := hc _ _ hg.2
    rw [e] at a b
    exact ⟨by rw [Nat.zero_add]; exact a, by rw [Nat.zero_add]; exact b⟩
/-- The others put behind one bind that was just made. -/
theorem appB11 {w : World} (t : AR) {ao : Option Addr} {bs : List AR} {cap : Nat} (hs : AV w 0 (.slice ao bs.length cap) bs) (hn : bs.length ≤ 100000000) (ty : TypeId) :
    ∃ v' w', (Builtin.append_ #[71, 71] ty #[.slice (some ⟨w.heap.size, 0, Option.none⟩) 1 1, .slice ao bs.length cap]).run Try.prog (w.alloc (.cells #[.string t.s, .int .i64 t.n] 70)) = .ok v' w' ∧ AV w' 0 v' (t :: bs) ∧ Below w.heap.size w w' := by
  obtain ⟨i0, hi, hz0, hz1, hz2⟩ := info_parts infoIB
  have hown : (w.alloc (.cells #[.string t.s, .int .i64 t.n] 70)).ownsRow w.heap.size 70 2 (.slice (some ⟨w.heap.size, 0, Option.none⟩) 1 1) 1 [.string t.s, .int .i64 t.n] := World.ownsRow_lit w #[.string t.s, .int .i64 t.n] 1 (Nat.le_refl _) (by simp [maxLen]) rfl
  have hbw := alloc_below w (.cells #[.string t.s, .int .i64 t.n] 70)
  have hs2 := hs.later hbw
  generalize hW : w.alloc (.cells #[.string t.s, .int .i64 t.n] 70) = W at hown hbw hs2 ⊢
  obtain ⟨ao', cap', e, hr⟩ := hs2
  injection e with e1 e2 e3
  subst e1; subst e3
  cases ao with
  | none =>
    obtain rfl : bs = [] := by
      rcases hr with h | ⟨g, off, h, _⟩
      · exact h
      · cases h
    refine ⟨_, W, ?_, AV.ofOwnB11 (ts := [t]) hown, hbw⟩
    simp [Builtin.append_, run_underlying Try.underlying71, sizeOf, typeInfo, hi, Builtin.lenOf, Builtin.firstCells, storeCells, loadCells, loadCellsFrom]
  | some a =>
    have hc : ∀ j u, (acells bs)[j]? = some u → W.cell? (a.add j) = some u := by
      rcases hr with h | ⟨g, off, h, _, _, hc⟩
      · subst h; intro j u hu; simp [acells] at hu
      · injection h with h
        subst h
        intro j u hu
        have e : (⟨g, off, Option.none⟩ : Addr).add j = ⟨g, off + j, Option.none⟩ := by simp [Addr.add]
        rw [e]
        have hj : j < (acells bs).length := (List.getElem?_eq_some_iff.1 hu).1
        rw [acells_len] at hj
        obtain ⟨t, ht⟩ : ∃ t, bs[j / 2]? = some t := ⟨bs[j / 2]'(by omega), List.getElem?_eq_getElem _⟩
        have hg := acells_get bs (j / 2) t ht
        rcases Nat.mod_two_eq_zero_or_one j with hm | hm
        · have hj2 : j / 2 * 2 = j := by omega
          rw [hj2] at hg
          rw [← Option.some.inj (hg.1.symm.trans hu)]
          have := (hc _ _ ht).1; rwa [hj2] at this
        · have hj2 : j / 2 * 2 + 1 = j := by omega
          rw [hj2] at hg
          rw [← Option.some.inj (hg.2.symm.trans hu)]
          have := (hc _ _ ht).2; rwa [Nat.add_assoc, hj2] at this
    obtain ⟨v', w', h1, h2, h3, _⟩ := run_append_own (P := Try.prog) W w.heap.size 71 ty 70 i0 _ 2 24 Try.underlying71 hi hz0 hz1 hz2 rfl (by decide) _ 1 _ hown a bs.length cap (acells bs) (acells_len bs) hc (acells_one11 bs) (by unfold maxLen; omega) (by omega) hbw.size
    obtain ⟨va, vc, rfl⟩ := ownShape11 h2
    refine ⟨_, w', h1, AV.ofOwnB11 (B := w.heap.size) ?_, hbw.grown h3 hbw.size (fun k hk => (hown.lt k hk).1)⟩
    rw [List.length_cons, Nat.add_comm bs.length 1]
    exact h2
theorem valsL11_len (c : Int) (ts : List AR) (s : ByteArray) (i : Int) (rs : List RG) : (valsL11 c ts s i rs).length = prodS11 s rs := by simp [valsL11]
theorem valsL11_take (c : Int) (ts : List AR) (s : ByteArray) (i : Int) (rs : List RG) {x : Nat} (h : x < prodS11 s rs) : (valsL11 c ts s i rs).take (x + 1) = (valsL11 c ts s i rs).take x ++ [affAt8 c ts (bindsGo11 s rs x [⟨s, i⟩])] := by
  rw [List.take_add_one, valsL11, List.getElem?_map, List.getElem?_range h]; rfl
end Go.Proofs.Ytjdpddcnogdekab
