/-
  Texts in one: MtGcd, MtCat.
-/
import Derived.Test.YtjdpddcnogdekaaGreatMtRng
import Derived.Test.YtjdpddcnogdekaaGreatGcd
import Derived.Test.YtjdpddcnogdekaaGreatAffOkS
import Derived.Shelf.Spec.SlicesGrow
import Derived.Laws.OwnMore
import Derived.Maps.AppendAt
import Derived.Test.YtjdpddcnogdekaaGreatAffOk
/-
  The greatest that divides all numbers of two sums; GcdMeet of the specification.
-/
namespace Go.Proofs.YtjdpddcnogdekaaGreat
open Go.RowKit Go.Lib
set_option linter.unusedSimpArgs false
set_option linter.unusedVariables false

def gcdL11 (g : Int) : List AR → Int
  | [] => g
  | t :: ts => gcdL11 (gcdW g t.n) ts
theorem gcdL11_app (g : Int) : ∀ (a b : List AR), gcdL11 g (a ++ b) = gcdL11 (gcdL11 g a) b := by
  intro a
  induction a generalizing g with
  | nil => intro b; rfl
  | cons t ts ih => intro b; exact ih _ b
theorem gcdW_bd (a b : Int) : 0 ≤ gcdW a b ∧ gcdW a b ≤ 2147483648 := by
  unfold gcdW
  have ha := wrap32_bdW a
  have hb := wrap32_bdW b
  refine ⟨by omega, ?_⟩
  by_cases h : wrap32 a = 0
  · rw [h, Int.gcd_zero_left]; omega
  · have := Int.gcd_le_natAbs_left (wrap32 b) h
    omega
theorem gcdL11_bd : ∀ (l : List AR) (g : Int), 0 ≤ g ∧ g ≤ 2147483648 → 0 ≤ gcdL11 g l ∧ gcdL11 g l ≤ 2147483648
  | [], g, h => h
  | t :: ts, g, _ => gcdL11_bd ts _ (gcdW_bd g t.n)
def gcdMeet11 (c : Int) (ts : List AR) (d : Int) (us : List AR) : Bool :=
  affOk8 c ts && affOk8 d us && (if gcdL11 0 (ts ++ us) = 0 then decide (c = d) else decide ((c - d).tmod (gcdL11 0 (ts ++ us)) = 0))
theorem affOk_c {c : Int} {ts : List AR} (h : affOk8 c ts = true) : -100000 ≤ c ∧ c ≤ 100000 := by
  simp only [affOk8, inMax8, Bool.and_eq_true, decide_eq_true_eq] at h
  exact h.1
set_option maxHeartbeats 4000000 in
theorem spec_GcdMeet (c : Int) (ts : List AR) (hn : ts.length ≤ 1000000000) (hts : ∀ t ∈ ts, t.s.size ≤ 281474976710656) (d : Int) (us : List AR) (hn2 : us.length ≤ 1000000000) (hus : ∀ t ∈ us, t.s.size ≤ 281474976710656) (va vb : Value) (w : World) (ha : AV w 0 va ts) (hb : AV w 0 vb us) (v : Bool) (hv : gcdMeet11 c ts d us = v) :
    Calls Tryz.prog 20 #[.agg #[.int .i64 c, va], .agg #[.int .i64 d, vb]] w fun e w' => e = .returned (.bool v) ∧ Below w.heap.size w w' := by
  have T0 := Lib.hid (Two11.start w c d 26 ha hb (RV.nil11 w))
  have HB := Lib.hid (And.intro hts hus)
  obtain ⟨a1, c1, rfl⟩ := ha.shape
  obtain ⟨a2, c2, rfl⟩ := hb.shape
  clear ha hb hts hus
  cases ho : affOk8 c ts with
  | false =>
    have R : Hid (v = false) := show v = false by rw [← hv, gcdMeet11, ho]; rfl
    have HO := Lib.hid ho
    clear ho hv
    go_enter Tryz.func20, Tryz.ntmps20
    go_wp2_with fail
    refine (spec_AffOk c ts hn HB.out.1 _ _ T0.out.a1 false HO.out).mono ?_
    rintro e w1 ⟨rfl, hb1⟩
    have T1 := Lib.hid (T0.out.later hb1)
    clear hb1 T0
    go_wp2
    go_ret
    exact ⟨by rw [R.out]; rfl, T1.out.low⟩
  | true =>
    have HO := Lib.hid ho
    cases ho2 : affOk8 d us with
    | false =>
      have R : Hid (v = false) := show v = false by rw [← hv, gcdMeet11, ho, ho2]; rfl
      have HO2 := Lib.hid ho2
      clear ho ho2 hv
      go_enter Tryz.func20, Tryz.ntmps20
      go_wp2_with fail
      refine (spec_AffOk c ts hn HB.out.1 _ _ T0.out.a1 true HO.out).mono ?_
      rintro e w1 ⟨rfl, hb1⟩
      have T1 := Lib.hid (T0.out.later hb1)
      clear hb1 T0
      obtain ⟨D0, D1⟩ := And.intro (cellC11 T1.out.r2) (cellT11 T1.out.r2)
      go_wp2_with fail
      refine (spec_AffOk d us hn2 HB.out.2 _ _ T1.out.a2 false HO2.out).mono ?_
      rintro e w2 ⟨rfl, hb1⟩
      have T2 := Lib.hid (T1.out.later hb1)
      clear hb1 T1 D0 D1
      go_wp2
      go_ret
      exact ⟨by rw [R.out]; rfl, T2.out.low⟩
    | true =>
      obtain ⟨N, hN⟩ : ∃ N, gcdL11 0 (ts ++ us) = N := ⟨_, rfl⟩
      have R : Hid (v = (if N = 0 then decide (c = d) else decide ((c - d).tmod N = 0))) := show v = _ by rw [← hv, gcdMeet11, ho, ho2, hN]; rfl
      have HN : Hid (gcdL11 (gcdL11 0 ts) us = N) := show _ = _ by rw [← gcdL11_app, hN]
      have HO2 := Lib.hid ho2
      have hcb := affOk_c ho
      have hdb := affOk_c ho2
      have hNb : 0 ≤ N ∧ N ≤ 2147483648 := by rw [← hN]; exact gcdL11_bd _ _ (by omega)
      have HNb := Lib.hid hNb
      have HCD := Lib.hid (And.intro hcb hdb)
      clear ho ho2 hv hN hNb hcb hdb
      go_enter Tryz.func20, Tryz.ntmps20
      go_wp2_with fail
      refine (spec_AffOk c ts hn HB.out.1 _ _ T0.out.a1 true HO.out).mono ?_
      rintro e w1 ⟨rfl, hb1⟩
      have T1 := Lib.hid (T0.out.later hb1)
      clear hb1 T0
      obtain ⟨D0, D1⟩ := And.intro (cellC11 T1.out.r2) (cellT11 T1.out.r2)
      go_wp2_with fail
      refine (spec_AffOk d us hn2 HB.out.2 _ _ T1.out.a2 true HO2.out).mono ?_
      rintro e w2 ⟨rfl, hb1⟩
      have T2 := Lib.hid (T1.out.later hb1)
      clear hb1 T1 D0 D1
      have C1 := cellT11 T2.out.r1
      have C2 := cellT11 T2.out.r2
      have C0 := cellC11 T2.out.r1
      have D0 := cellC11 T2.out.r2
      go_wp2
      go_loop [5, 6] (fun g i => ∃ (G : Int) (k : Nat), k ≤ ts.length ∧ g = .int .i64 G ∧ i = .int .i64 k ∧ Hid (gcdL11 0 ts = gcdL11 G (ts.drop k))) (fun _ i => ts.length - (RowKit.intOf i).toNat)
      case atStart => exact ⟨0, 0, by omega, rfl, rfl, (by show _ = _; rw [List.drop_zero])⟩
      case round =>
        obtain ⟨G, k, hk, rfl, rfl, hg⟩ := hrel
        by_cases hlt : k < ts.length
        · have hltI : (k : Int) < (ts.length : Int) := by omega
          obtain ⟨t, ht⟩ : ∃ t, ts[k]? = some t := ⟨ts[k], List.getElem?_eq_getElem hlt⟩
          obtain ⟨ao, cap, e, hr⟩ := T2.out.a1
          injection e with e1 e2 e3
          subst e1; subst e3
          rcases hr with hr | ⟨q, off, rfl, _, gl, hc⟩
          · subst hr; simp at hlt
          have A1 := (hc k t ht).2
          have hg2 : Hid (gcdL11 0 ts = gcdL11 (gcdW G t.n) (ts.drop (k + 1))) := show _ = _ by rw [hg.out, drop8 ht, gcdL11]
          clear hc ht
          go_wp2_with (go_at_call 54; refine (spec_Gcd _ _ _).mono ?_; rintro e w' ⟨rfl, rfl⟩)
          go_round
          case rel => exact ⟨_, k + 1, by omega, rfl, by go_num, hg2.out⟩
          case measure => simp [RowKit.intOf]; omega
        · have hg2 : Hid (gcdL11 0 ts = G) := show _ = _ by rw [hg.out, List.drop_of_length_le (by omega), gcdL11]
          clear hg
          have hkI : ¬ (k : Int) < (ts.length : Int) := by omega
          go_wp2
          go_loop [5, 7] (fun g i => ∃ (G : Int) (k : Nat), k ≤ us.length ∧ g = .int .i64 G ∧ i = .int .i64 k ∧ Hid (N = gcdL11 G (us.drop k))) (fun _ i => us.length - (RowKit.intOf i).toNat)
          case atStart => exact ⟨G, 0, by omega, rfl, rfl, (by show _ = _; rw [List.drop_zero, ← HN.out, hg2.out])⟩
          case round =>
            obtain ⟨G, k, hk, rfl, rfl, hg⟩ := hrel
            by_cases hlt : k < us.length
            · have hltI : (k : Int) < (us.length : Int) := by omega
              obtain ⟨t, ht⟩ : ∃ t, us[k]? = some t := ⟨us[k], List.getElem?_eq_getElem hlt⟩
              obtain ⟨ao, cap, e, hr⟩ := T2.out.a2
              injection e with e1 e2 e3
              subst e1; subst e3
              rcases hr with hr | ⟨q, off, rfl, _, gl, hc⟩
              · subst hr; simp at hlt
              have A1 := (hc k t ht).2
              have hg2 : Hid (N = gcdL11 (gcdW G t.n) (us.drop (k + 1))) := show _ = _ by rw [hg.out, drop8 ht, gcdL11]
              clear hc ht
              go_wp2_with (go_at_call 54; refine (spec_Gcd _ _ _).mono ?_; rintro e w' ⟨rfl, rfl⟩)
              go_round
              case rel => exact ⟨_, k + 1, by omega, rfl, by go_num, hg2.out⟩
              case measure => simp [RowKit.intOf]; omega
            · have hg2 : Hid (N = G) := show _ = _ by rw [hg.out, List.drop_of_length_le (by omega), gcdL11]
              clear hg
              obtain rfl := hg2.out
              by_cases h0 : N = 0
              · have R2 : Hid (v = decide (c = d)) := show _ = _ by rw [R.out, if_pos h0]
                clear R HNb HN
                subst h0
                by_cases hcd : c = d
                · subst hcd
                  go_wp2
                  go_ret
                  exact ⟨ret_bool (by rw [R2.out]; simp), T2.out.low⟩
                · have hcf : (c == d) = false := by simp [hcd]
                  go_wp2
                  go_ret
                  exact ⟨ret_bool (by rw [R2.out]; simp [hcd]), T2.out.low⟩
              · have R2 : Hid (v = decide ((c - d).tmod N = 0)) := show _ = _ by rw [R.out, if_neg h0]
                have h0f : (N == 0) = false := by simp [h0]
                have hw1 : wrap64 (c - d) = c - d := by have := HCD.out; unfold wrap64; omega
                have hw2 : wrap64 ((c - d).tmod N) = (c - d).tmod N := by
                  have := tmod_lt (c - d) N h0; have := HNb.out; unfold wrap64; omega
                clear R HN
                by_cases hcd : (c - d).tmod N = 0
                · go_wp2
                  go_ret
                  exact ⟨ret_bool (by rw [R2.out]; simp [hcd]), T2.out.low⟩
                · have hcf : ((c - d).tmod N == 0) = false := by simp [hcd]
                  go_wp2
                  go_ret
                  exact ⟨ret_bool (by rw [R2.out]; simp [hcd]), T2.out.low⟩
end Go.Proofs.YtjdpddcnogdekaaGreat
/-
  slices.Concat of two rows of terms; GcdMeet of the landed code.
-/
namespace Go.Proofs
open Go.RowKit Go.Shelf
def Tryz.growT_ren : Go.Shelf.Ren := ⟨fun | 4 => 64 | n => n, fun | 22 => 24 | 25 => 70 | 3 => 3 | 4 => 4 | 9 => 9 | 20 => 20 | 0 => 0 | n => n, fun | n => n⟩
theorem Tryz.growT : Go.Proofs.Lays8.n4 Tryz.prog Tryz.growT_ren := {
  mixed := by kernel_rfl
  f4 := ⟨Tryz.f64.name, by decide, Tryz.func64.trans (congrArg some (by kernel_rfl))⟩
  t0 := Tryz.underlying0
  a0 := Tryz.isAgg0
  z0 := Tryz.sizeOf0
  v0 := Tryz.zeroValue0
  t3 := Tryz.underlying3
  a3 := Tryz.isAgg3
  z3 := Tryz.sizeOf3
  v3 := Tryz.zeroValue3
  t4 := Tryz.underlying4
  a4 := Tryz.isAgg4
  z4 := Tryz.sizeOf4
  v4 := Tryz.zeroValue4
  t9 := Tryz.underlying9
  a9 := Tryz.isAgg9
  z9 := Tryz.sizeOf9
  v9 := Tryz.zeroValue9
  t20 := Tryz.underlying20
  a20 := Tryz.isAgg20
  z20 := Tryz.sizeOf20
  v20 := Tryz.zeroValue20
  t22 := Tryz.underlying24
  a22 := Tryz.isAgg24
  z22 := Tryz.sizeOf24
  v22 := Tryz.zeroValue24 }
theorem Tryz.grow11 (n : Nat) (hn : n ≤ 100000000) (i0 : TypeInfo) (z : Value) (hi0 : Tryz.prog.info? 70 = some i0) (hz0 : i0.zero = some z) (hs0 : i0.size = 2) (hb0 : i0.bytes = 24) (hzs : z.cells.size = 2) (w : World) :
    Calls Tryz.prog 64 #[.slice none 0 0, .int .i64 n] w fun e w' => ∃ v', e = .returned v' ∧ w'.ownsRow w.heap.size 70 2 v' 0 [] ∧ Below w.heap.size w w' := by
  by_cases h : n = 0
  · subst h
    refine (Any8.slices_Grow_room Tryz.growT Option.none 0 0 0 w (by omega) (by omega) (by omega) (by omega)).mono ?_
    rintro e w' ⟨rfl, rfl⟩
    exact ⟨_, rfl, World.ownsRow_nil _ _ _ _, Below.refl _ _⟩
  · refine (Any8.slices_Grow_grow Tryz.growT i0 z hi0 hz0 (by omega) Option.none 0 0 n [] w (by omega) (by omega) (by rw [hb0]; omega) (by omega) (by simp) (fun _ => rfl) (fun a h => by cases h)).mono ?_
    rintro e w' ⟨rfl, rfl⟩
    have hge := grownCap_ge w (0 + n) 0 70
    have hcm := grownCap_le_maxLen w (0 + n) 0 70 (by unfold maxLen; omega)
    refine ⟨_, rfl, ?_, ?_⟩
    · refine World.ownsRow_made (w.drew) _ _ (Nat.le_refl _) hcm ?_
      simp only [Array.size_append, List.size_toArray, size_zeroCells, hzs, List.length_nil]
      show 0 + (0 + n - 0) * 2 + (grownCap w (0 + n) 0 70 - (0 + n)) * 2 = grownCap w (0 + n) 0 70 * 2
      omega
    · exact (Below.refl _ w).drew.alloc (Nat.le_refl _) _
end Go.Proofs
namespace Go.Proofs.YtjdpddcnogdekaaGreat
open Go.RowKit Go.Lib
set_option linter.unusedSimpArgs false
set_option linter.unusedVariables false

theorem AV.ofOwn11 {w : World} {B n c : Nat} {a : Option Addr} {ts : List AR} (h : w.ownsRow B 70 2 (.slice a n c) ts.length (acells ts)) : AV w 0 (.slice a n c) ts := by
  rcases h.2 with ⟨h0, h1⟩ | ⟨g, cap, cur, h1, h2, h3, h4⟩
  · have : ts = [] := List.length_eq_zero_iff.1 h1
    subst this
    exact ⟨_, _, h0, .inl rfl⟩
  · have hc := h.cells (g := g) (by rw [h1]; rfl)
    refine ⟨_, cap, h1, .inr ⟨g, 0, rfl, Nat.zero_le _, (Array.getElem?_eq_some_iff.1 h3).1, fun i t hi => ?_⟩⟩
    have hg := acells_get ts i t hi
    have e : ∀ j, (⟨g, 0, Option.none⟩ : Addr).add j = ⟨g, j, Option.none⟩ := fun j => by simp [Addr.add]; omega
    have a := hc _ _ hg.1; have b := hc _ _ hg.2
    rw [e] at a b
    exact ⟨by rw [Nat.zero_add]; exact a, by rw [Nat.zero_add]; exact b⟩
theorem ownShape11 {w : World} {B sz n : Nat} {e : TypeId} {v : Value} {xs : List Value} (h : w.ownsRow B e sz v n xs) : ∃ a c, v = .slice a n c := by
  rcases h.2 with ⟨h0, h1⟩ | ⟨g, cap, cur, h1, _⟩
  · subst h1; exact ⟨_, _, h0⟩
  · exact ⟨_, _, h1⟩
theorem acells_one11 : ∀ (bs : List AR), ∀ u ∈ acells bs, u.oneCell' = true := by
  intro bs
  induction bs with
  | nil => intro u hu; simp [acells] at hu
  | cons t ts ih =>
    intro u hu
    simp only [acells, List.mem_cons] at hu
    rcases hu with rfl | rfl | hu
    · rfl
    · rfl
    · exact ih u hu
/-- Terms appended to a row that is the call's own. -/
theorem appT11 {w : World} {B : Nat} {v : Value} {n : Nat} {xs : List Value} {ao : Option Addr} {ts : List AR} {cap : Nat} (hown : w.ownsRow B 70 2 v n xs) (hB : B ≤ w.heap.size) (hs : AV w 0 (.slice ao ts.length cap) ts) (hn : n + ts.length ≤ 100000000) (ty : TypeId) :
    ∃ v' w', (Builtin.append_ #[24, 24] ty #[v, .slice ao ts.length cap]).run Tryz.prog w = .ok v' w' ∧ w'.ownsRow B 70 2 v' (n + ts.length) (xs ++ acells ts) ∧ w.grownBy w' v.ownBlock := by
  obtain ⟨i0, hi, hz0, hz1, hz2⟩ := info_parts infoIT8
  obtain ⟨ao', cap', e, hr⟩ := hs
  injection e with e1 e2 e3
  subst e1; subst e3
  cases ao with
  | none =>
    obtain rfl : ts = [] := by
      rcases hr with h | ⟨g, off, h, _⟩
      · exact h
      · cases h
    refine ⟨v, w, ?_, by simpa [acells] using hown, World.grownBy.refl _ _⟩
    rcases hown.2 with ⟨rfl, rfl⟩ | ⟨g, cap2, cur, rfl, _, _, hnc, _⟩
    · simp [Builtin.append_, run_underlying Tryz.underlying24, sizeOf, typeInfo, hi, Builtin.lenOf, Builtin.firstCells, loadCells, loadCellsFrom]
    · simp [Builtin.append_, run_underlying Tryz.underlying24, sizeOf, typeInfo, hi, Builtin.lenOf, Builtin.firstCells, hnc, storeCells, loadCells, loadCellsFrom]
  | some a =>
    have hc : ∀ j u, (acells ts)[j]? = some u → w.cell? (a.add j) = some u := by
      rcases hr with h | ⟨g, off, h, _, _, hc⟩
      · subst h; intro j u hu; simp [acells] at hu
      · injection h with h
        subst h
        intro j u hu
        have e : (⟨g, off, Option.none⟩ : Addr).add j = ⟨g, off + j, Option.none⟩ := by simp [Addr.add]
        rw [e]
        have hj : j < (acells ts).length := (List.getElem?_eq_some_iff.1 hu).1
        rw [acells_len] at hj
        obtain ⟨t, ht⟩ : ∃ t, ts[j / 2]? = some t := ⟨ts[j / 2]'(by omega), List.getElem?_eq_getElem _⟩
        have hg := acells_get ts (j / 2) t ht
        rcases Nat.mod_two_eq_zero_or_one j with hm | hm
        · have hj2 : j / 2 * 2 = j := by omega
          rw [hj2] at hg
          rw [← Option.some.inj (hg.1.symm.trans hu)]
          have := (hc _ _ ht).1; rwa [hj2] at this
        · have hj2 : j / 2 * 2 + 1 = j := by omega
          rw [hj2] at hg
          rw [← Option.some.inj (hg.2.symm.trans hu)]
          have := (hc _ _ ht).2; rwa [Nat.add_assoc, hj2] at this
    obtain ⟨v', w', h1, h2, h3, _⟩ := run_append_own (P := Tryz.prog) w B 24 ty 70 i0 _ 2 24 Tryz.underlying24 hi hz0 hz1 hz2 rfl (by decide) v n xs hown a ts.length cap (acells ts) (acells_len ts) hc (acells_one11 ts) (by unfold maxLen; omega) (by omega) hB
    exact ⟨v', w', h1, h2, h3⟩
section
variable {P : Program} {w w' : World}
theorem wp_app11 {o : Oper} {a : Act} {K : Act → World → Prop} {Q : Exit → Act → World → Prop} (s x : Operand) (t : TypeId) (v sx v' : Value) (ho : o.op = .call { callee := .builtin .append, args := #[s, x], argTypes := #[t, t] })
    (hs : a.eval s = v) (hx : a.eval x = sx) (hrun : (Builtin.append_ #[t, t] o.type #[v, sx]).run P w = .ok v' w') (h : K (a.put o.dst v') w') : o.wp P a w K Q := by
  unfold Oper.wp execOp
  simp only [ho, resolve, invoke, builtin, Sem.run_bind, Sem.run_pure, Result.andThen_ok, List.map_toArray, List.map_cons, List.map_nil, hs, hx, hrun]
  exact h
theorem wpList_app11 {ops : Array Oper} {rest : List Oper} {o : Oper} {a : Act} {Q : Exit → Act → World → Prop} (hgd : o.guard = none) (s x : Operand) (t : TypeId) (v sx v' : Value) (ho : o.op = .call { callee := .builtin .append, args := #[s, x], argTypes := #[t, t] })
    (hs : a.eval s = v) (hx : a.eval x = sx) (hrun : (Builtin.append_ #[t, t] o.type #[v, sx]).run P w = .ok v' w') (h : wpList P ops Q rest (a.put o.dst v') w') : wpList P ops Q (o :: rest) a w :=
  wpList_plain hgd fun _ hK => wp_app11 s x t v sx v' ho hs hx hrun (hK _ _ h)
end
def part11 (ts us : List AR) : Nat → List AR
  | 0 => []
  | 1 => ts
  | _ => ts ++ us
theorem acells_app11 : ∀ (a b : List AR), acells (a ++ b) = acells a ++ acells b
  | [], _ => rfl
  | t :: r, b => by simp only [List.cons_append, acells, acells_app11 r b]
set_option maxHeartbeats 600000 in
set_option maxRecDepth 10000 in
theorem concat_is (ts us : List AR) (hn : ts.length ≤ 10000000) (hm : us.length ≤ 10000000) (va vb : Value) (b : Nat) (w : World) (ha : AV w 0 va ts) (hb : AV w 0 vb us) (h0 : w.cell? ⟨b, 0, Option.none⟩ = some va) (h1 : w.cell? ⟨b, 1, Option.none⟩ = some vb) :
    Calls Tryz.prog 43 #[.slice (some ⟨b, 0, Option.none⟩) 2 2] w fun e w' => ∃ v', e = .returned v' ∧ AV w' 0 v' (ts ++ us) ∧ Below w.heap.size w w' := by
  obtain ⟨i0, hi, hz0, hz1, hz2⟩ := info_parts infoIT8
  have HI := Lib.hid (And.intro hi (And.intro hz0 (And.intro hz1 hz2)))
  have HA := Lib.hid (And.intro ha hb)
  obtain ⟨a1, c1, rfl⟩ := ha.shape
  obtain ⟨a2, c2, rfl⟩ := hb.shape
  have hnI : (ts.length : Int) ≤ 10000000 := by omega
  have hmI : (us.length : Int) ≤ 10000000 := by omega
  have HNM := Lib.hid (And.intro hn hm)
  clear ha hb hi hz0 hz1 hz2 hn hm
  go_enter Tryz.func43, Tryz.ntmps43
  go_wp2
  go_loop [3, 11] (fun s i => ∃ k : Nat, k ≤ 2 ∧ i = .int .i64 k ∧ s = .int .i64 ((part11 ts us k).length : Nat)) (fun _ i => 2 - (RowKit.intOf i).toNat)
  case atStart => exact ⟨0, by omega, rfl, rfl⟩
  case round =>
    obtain ⟨k, hk, rfl, rfl⟩ := hrel
    rcases (show k = 0 ∨ k = 1 ∨ k = 2 by omega) with rfl | rfl | rfl
    · simp only [part11, List.length_nil]
      go_wp2
      go_round
      case rel => exact ⟨1, by omega, by go_num, by simp [part11]⟩
      case measure => simp [RowKit.intOf]
    · simp only [part11]
      go_wp2
      go_round
      case rel => exact ⟨2, by omega, by go_num, by simp [part11]⟩
      case measure => simp [RowKit.intOf]
    · obtain ⟨N, hN⟩ : ∃ N : Nat, (part11 ts us 2).length = N := ⟨_, rfl⟩
      have hN2 : N = ts.length + us.length := by rw [← hN]; simp [part11]
      rw [hN]
      have HN2 := Lib.hid hN2
      have hNI : (N : Int) ≤ 100000000 := by have := HNM.out; omega
      clear hN hN2
      go_wp2_with fail
      refine (Tryz.grow11 N (by omega) i0 _ HI.out.1 HI.out.2.1 HI.out.2.2.1 HI.out.2.2.2 rfl _).mono ?_
      rintro e w1 ⟨v1, rfl, hown, hb1⟩
      have HO := Lib.hid hown
      have HB := Lib.hid hb1
      have C0 := keeps hb1 h0
      have C1 := keeps hb1 h1
      clear hown hb1
      go_wp2
      go_loopw [6, 27] (fun v i wr => ∃ k : Nat, k ≤ 2 ∧ i = .int .i64 k ∧ Hid (wr.ownsRow w.heap.size 70 2 v (part11 ts us k).length (acells (part11 ts us k))) ∧ Below w.heap.size w wr) (fun _ i _ => 2 - (RowKit.intOf i).toNat)
      case atStart => exact ⟨0, by omega, rfl, HO.out, HB.out⟩
      case round =>
        obtain ⟨k, hk, rfl, hO, hbr⟩ := hrel
        have D0 := keeps hbr h0
        have D1 := keeps hbr h1
        rcases (show k = 0 ∨ k = 1 ∨ k = 2 by omega) with rfl | rfl | rfl
        · obtain ⟨v', w', hrun, hown, hgr⟩ := appT11 (ts := ts) hO.out hbr.size (HA.out.1.later hbr) (by have := HNM.out; simp [part11]; omega) 24
          have HO2 : Hid (w'.ownsRow w.heap.size 70 2 v' (part11 ts us 1).length (acells (part11 ts us 1))) := show World.ownsRow _ _ _ _ _ _ _ by simpa [part11, acells] using hown
          have HB2 := Lib.hid (hbr.grown hgr hbr.size (fun k hk => (hO.out.lt k hk).1))
          obtain ⟨x1, y1, rfl⟩ := ownShape11 hO.out
          clear hown hgr hbr hO
          go_wp2_with (refine wpList_app11 rfl _ _ 24 _ _ _ rfl rfl rfl hrun ?_)
          go_roundw
          case rel => exact ⟨1, by omega, by go_num, HO2.out, HB2.out⟩
          case measure => simp [RowKit.intOf]
        · obtain ⟨v', w', hrun, hown, hgr⟩ := appT11 (ts := us) hO.out hbr.size (HA.out.2.later hbr) (by have := HNM.out; simp [part11]; omega) 24
          have HO2 : Hid (w'.ownsRow w.heap.size 70 2 v' (part11 ts us 2).length (acells (part11 ts us 2))) := show World.ownsRow _ _ _ _ _ _ _ by rw [show (part11 ts us 2) = ts ++ us from rfl, acells_app11, List.length_append]; exact hown
          have HB2 := Lib.hid (hbr.grown hgr hbr.size (fun k hk => (hO.out.lt k hk).1))
          obtain ⟨x1, y1, rfl⟩ := ownShape11 hO.out
          clear hown hgr hbr hO
          go_wp2_with (refine wpList_app11 rfl _ _ 24 _ _ _ rfl rfl rfl hrun ?_)
          go_roundw
          case rel => exact ⟨2, by omega, by go_num, HO2.out, HB2.out⟩
          case measure => simp [RowKit.intOf]
        · obtain ⟨x1, y1, rfl⟩ := ownShape11 hO.out
          have HAV : Hid (AV wr 0 (.slice x1 (part11 ts us 2).length y1) (ts ++ us)) := AV.ofOwn11 (B := w.heap.size) hO.out
          go_wp2
          go_ret
          exact ⟨_, rfl, HAV.out, hbr⟩
theorem below_alloc11 {w w' : World} {o : Obj} (h : Below (w.alloc o).heap.size (w.alloc o) w') : Below w.heap.size w w' :=
  (alloc_below w o).trans (h.mono (by simp))
theorem below_drewN11 {B : Nat} {w w' : World} (h : Below B w w') (n : Nat) : Below B w (w'.drewN n) := ⟨h.os, h.tape, h.output, h.size, h.block⟩
set_option maxHeartbeats 4000000 in
theorem impl_GcdMeet (c : Int) (ts : List AR) (hn : ts.length ≤ 10000000) (d : Int) (us : List AR) (hn2 : us.length ≤ 10000000) (va vb : Value) (w : World) (ha : AV w 0 va ts) (hb : AV w 0 vb us) (v : Bool) (hv : gcdMeet11 c ts d us = v) :
    Calls Tryz.prog 10 #[.agg #[.int .i64 c, va], .agg #[.int .i64 d, vb]] w fun e w' => e = .returned (.bool v) ∧ Below w.heap.size w w' := by
  have T0 := Lib.hid (Two11.start w c d 26 ha hb (RV.nil11 w))
  obtain ⟨a1, c1, rfl⟩ := ha.shape
  obtain ⟨a2, c2, rfl⟩ := hb.shape
  have HNM := Lib.hid (And.intro hn hn2)
  clear ha hb hn hn2
  cases ho : affOk8 c ts with
  | false =>
    have R : Hid (v = false) := show v = false by rw [← hv, gcdMeet11, ho]; rfl
    have HO := Lib.hid ho
    clear ho hv
    go_enter Tryz.func10, Tryz.ntmps10
    go_wp2_with fail
    refine (impl_AffOk c ts (by have := HNM.out; omega) _ _ T0.out.a1 false HO.out).mono ?_
    rintro e w1 ⟨rfl, hb1⟩
    have T1 := Lib.hid (T0.out.later hb1)
    clear hb1 T0
    go_wp2
    go_ret
    exact ⟨by rw [R.out]; rfl, T1.out.low⟩
  | true =>
    have HO := Lib.hid ho
    cases ho2 : affOk8 d us with
    | false =>
      have R : Hid (v = false) := show v = false by rw [← hv, gcdMeet11, ho, ho2]; rfl
      have HO2 := Lib.hid ho2
      clear ho ho2 hv
      go_enter Tryz.func10, Tryz.ntmps10
      go_wp2_with fail
      refine (impl_AffOk c ts (by have := HNM.out; omega) _ _ T0.out.a1 true HO.out).mono ?_
      rintro e w1 ⟨rfl, hb1⟩
      have T1 := Lib.hid (T0.out.later hb1)
      clear hb1 T0
      obtain ⟨D0, D1⟩ := And.intro (cellC11 T1.out.r2) (cellT11 T1.out.r2)
      go_wp2_with fail
      refine (impl_AffOk d us (by have := HNM.out; omega) _ _ T1.out.a2 false HO2.out).mono ?_
      rintro e w2 ⟨rfl, hb1⟩
      have T2 := Lib.hid (T1.out.later hb1)
      clear hb1 T1 D0 D1
      go_wp2
      go_ret
      exact ⟨by rw [R.out]; rfl, T2.out.low⟩
    | true =>
      obtain ⟨N, hN⟩ : ∃ N, gcdL11 0 (ts ++ us) = N := ⟨_, rfl⟩
      have R : Hid (v = (if N = 0 then decide (c = d) else decide ((c - d).tmod N = 0))) := show v = _ by rw [← hv, gcdMeet11, ho, ho2, hN]; rfl
      have HN := Lib.hid hN
      have HO2 := Lib.hid ho2
      have hcb := affOk_c ho
      have hdb := affOk_c ho2
      have hNb : 0 ≤ N ∧ N ≤ 2147483648 := by rw [← hN]; exact gcdL11_bd _ _ (by omega)
      have HNb := Lib.hid hNb
      have HCD := Lib.hid (And.intro hcb hdb)
      clear ho ho2 hv hN hNb hcb hdb
      go_enter Tryz.func10, Tryz.ntmps10
      go_wp2_with fail
      refine (impl_AffOk c ts (by have := HNM.out; omega) _ _ T0.out.a1 true HO.out).mono ?_
      rintro e w1 ⟨rfl, hb1⟩
      have T1 := Lib.hid (T0.out.later hb1)
      clear hb1 T0
      obtain ⟨D0, D1⟩ := And.intro (cellC11 T1.out.r2) (cellT11 T1.out.r2)
      go_wp2_with fail
      refine (impl_AffOk d us (by have := HNM.out; omega) _ _ T1.out.a2 true HO2.out).mono ?_
      rintro e w2 ⟨rfl, hb1⟩
      have T2 := Lib.hid (T1.out.later hb1)
      clear hb1 T1 D0 D1
      have C1 := cellT11 T2.out.r1
      have C2 := cellT11 T2.out.r2
      go_wp2_with fail
      have ba := alloc_below w2 (.cells #[.slice a1 ts.length c1, .slice a2 us.length c2] 24)
      obtain ⟨⟨e0, e1⟩, _⟩ := blk2 (heap_last w2 (.cells #[.slice a1 ts.length c1, .slice a2 us.length c2] 24))
      refine (concat_is ts us HNM.out.1 HNM.out.2 _ _ w2.heap.size _ (T2.out.a1.later ba) (T2.out.a2.later ba) e0 e1).mono ?_
      rintro e w3 ⟨v3, rfl, hv3, hb3⟩
      have T3 := Lib.hid (T2.out.later (below_alloc11 hb3))
      have HL := Lib.hid hv3
      have hLn : Hid ((ts ++ us).length ≤ 20000000) := show _ ≤ _ by have := HNM.out; simp; omega
      obtain ⟨L, hL⟩ : ∃ L, ts ++ us = L := ⟨_, rfl⟩
      rw [hL] at HN HL hLn hv3
      have hLI : (L.length : Int) ≤ 20000000 := by have := hLn.out; omega
      obtain ⟨a3, c3, rfl⟩ := hv3.shape
      clear hb3 ba e0 e1 C1 C2 T2 hv3 hL
      go_wp2
      go_loopw [5, 24] (fun g i wr => ∃ (G : Int) (k : Nat), k ≤ L.length ∧ g = .int .i64 G ∧ i = .int .i64 k ∧ Hid (N = gcdL11 G (L.drop k)) ∧ Below w3.heap.size w3 wr) (fun _ i _ => L.length - (RowKit.intOf i).toNat)
      case atStart => exact ⟨0, 0, by omega, rfl, rfl, (by show _ = _; rw [List.drop_zero, HN.out]), Below.refl _ _⟩
      case round =>
        obtain ⟨G, k, hk, rfl, rfl, hg, hbr⟩ := hrel
        by_cases hlt : k < L.length
        · have hltI : (k : Int) < (L.length : Int) := by omega
          obtain ⟨t, ht⟩ : ∃ t, L[k]? = some t := ⟨L[k], List.getElem?_eq_getElem hlt⟩
          obtain ⟨ao, cap, e, hr⟩ := HL.out
          injection e with e1 e2 e3
          subst e1; subst e3
          rcases hr with hr | ⟨q, off, rfl, _, gl, hc⟩
          · subst hr; simp at hlt
          have A0 := (hbr.cell (p := ⟨q, off + k * 2, Option.none⟩) gl).trans (hc k t ht).1
          have A1 := (hbr.cell (p := ⟨q, off + k * 2 + 1, Option.none⟩) gl).trans (hc k t ht).2
          have hg2 : Hid (N = gcdL11 (gcdW G t.n) (L.drop (k + 1))) := show _ = _ by rw [hg.out, drop8 ht, gcdL11]
          have HB := Lib.hid (fun (o : Obj) (n : Nat) => (below_drewN11 (hbr.alloc hbr.size o) n))
          clear hc ht hbr hg
          go_wp2_with (go_at_call 44; refine (impl_Gcd _ _ _).mono ?_; rintro e w' ⟨rfl, n, rfl⟩)
          go_roundw
          case rel => exact ⟨_, k + 1, by omega, rfl, by go_num, hg2.out, HB.out _ _⟩
          case measure => simp [RowKit.intOf]; omega
        · have hg2 : Hid (N = G) := show _ = _ by rw [hg.out, List.drop_of_length_le (by omega), gcdL11]
          have T4 := Lib.hid (T3.out.later hbr)
          have C0 := cellC11 T4.out.r1
          have D0 := cellC11 T4.out.r2
          clear hg hbr
          obtain rfl := hg2.out
          have hw1 : wrap64 (d - c) = d - c := by have := HCD.out; unfold wrap64; omega
          by_cases h0 : N = 0
          · have R2 : Hid (v = decide (c = d)) := show _ = _ by rw [R.out, if_pos h0]
            clear R HNb HN
            subst h0
            by_cases hcd : c = d
            · subst hcd
              go_wp2
              go_ret
              exact ⟨ret_bool (by rw [R2.out]; simp), T4.out.low⟩
            · have hcf : (d - c == 0) = false := by simp; omega
              go_wp2
              go_ret
              exact ⟨ret_bool (by rw [R2.out]; simp [hcd]), T4.out.low⟩
          · have hsw : (d - c).tmod N = -((c - d).tmod N) := by rw [← Int.neg_tmod]; congr 1; omega
            have R2 : Hid (v = decide ((d - c).tmod N = 0)) := show _ = _ by
              rw [R.out, if_neg h0, hsw]
              by_cases hz : (c - d).tmod N = 0
              · simp [hz]
              · simp [hz]
            clear hsw
            have h0f : (N == 0) = false := by simp [h0]
            have hw2 : wrap64 ((d - c).tmod N) = (d - c).tmod N := by
              have := tmod_lt (d - c) N h0; have := HNb.out; unfold wrap64; omega
            clear R HN
            by_cases hcd : (d - c).tmod N = 0
            · go_wp2
              go_ret
              exact ⟨ret_bool (by rw [R2.out]; simp [hcd]), T4.out.low⟩
            · have hcf : ((d - c).tmod N == 0) = false := by simp [hcd]
              go_wp2
              go_ret
              exact ⟨ret_bool (by rw [R2.out]; simp [hcd]), T4.out.low⟩
end Go.Proofs.YtjdpddcnogdekaaGreat
