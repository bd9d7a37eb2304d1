/-
  l8Names of the specification: the names of both sums.
-/
import Derived.Test.YtfacenfiocdbgaaAffTimes
import Derived.Test.YtfacenfiocdbgaaNamePut
namespace Go.Proofs.Ytfacenfiocdbgaa
open Go.RowKit Go.Lib
set_option linter.unusedSimpArgs false
set_option linter.unusedVariables false

def puts8 (ns : List ByteArray) (l : List AR) : List ByteArray := l.foldl (fun ns t => putR t.s false ns) ns
theorem puts8_take (ns : List ByteArray) {l : List AR} {k : Nat} {t : AR} (h : l[k]? = some t) : puts8 ns (l.take (k + 1)) = putR t.s false (puts8 ns (l.take k)) := by
  rw [take_snocA h, puts8, List.foldl_append]; rfl
theorem puts8_len : ∀ (l : List AR) (ns : List ByteArray), (puts8 ns l).length ≤ ns.length + l.length
  | [], ns => by simp [puts8]
  | t :: l, ns => by
    have h1 := puts8_len l (putR t.s false ns)
    have h2 := putR_len t.s false ns
    have e : puts8 ns (t :: l) = puts8 (putR t.s false ns) l := rfl
    rw [e]; simp only [List.length_cons]; omega
theorem puts8_asc : ∀ (l : List AR) (ns : List ByteArray), Asc ns → Asc (puts8 ns l) ∧ ∀ b, b ∈ puts8 ns l ↔ ((∃ t ∈ l, t.s = b) ∨ b ∈ ns)
  | [], ns, h => ⟨h, fun b => by simp [puts8]⟩
  | t :: l, ns, h => by
    obtain ⟨a1, a2⟩ := asc_put t.s ns h
    obtain ⟨b1, b2⟩ := puts8_asc l (putR t.s false ns) a1
    refine ⟨b1, fun b => ?_⟩
    have e : puts8 ns (t :: l) = puts8 (putR t.s false ns) l := rfl
    rw [e, b2, a2]
    constructor
    · rintro (⟨x, hx, rfl⟩ | rfl | hb)
      · exact .inl ⟨x, by simp [hx], rfl⟩
      · exact .inl ⟨t, by simp, rfl⟩
      · exact .inr hb
    · rintro (⟨x, hx, rfl⟩ | hb)
      · rcases List.mem_cons.1 hx with rfl | hx
        · exact .inr (.inl rfl)
        · exact .inl ⟨x, hx, rfl⟩
      · exact .inr (.inr hb)
set_option maxHeartbeats 4000000 in
set_option maxRecDepth 100000 in
theorem l8Names_is (ca cb : Int) (la lb : List AR) (hl : la.length ≤ 4000000) (hm : lb.length ≤ 4000000) (va vb : Value) (w : World) (ha : AV w 0 va la) (hb : AV w 0 vb lb) :
    Calls Try.prog 57 #[.agg #[.int .i64 ca, va], .agg #[.int .i64 cb, vb]] w fun e w' => ∃ v', e = .returned v' ∧ TV w' w.heap.size v' (puts8 (puts8 [] la) lb) ∧ Below w.heap.size w w' := by
  obtain ⟨q0, q1⟩ := heap2t w (.cells #[.int .i64 ca, va] 26) (.cells #[.int .i64 cb, vb] 26)
  have HB2 : Hid (Below w.heap.size w ((w.alloc (.cells #[.int .i64 ca, va] 26)).alloc (.cells #[.int .i64 cb, vb] 26))) := show Below _ _ _ from (alloc_below w _).alloc (by simp) _
  have HA := Lib.hid (And.intro ha hb)
  obtain ⟨a1, c1, rfl⟩ := ha.shape
  obtain ⟨a2, c2, rfl⟩ := hb.shape
  obtain ⟨w2, W2⟩ : ∃ w2, Hid (w2 = (w.alloc (.cells #[.int .i64 ca, .slice a1 la.length c1] 26)).alloc (.cells #[.int .i64 cb, .slice a2 lb.length c2] 26)) := ⟨_, rfl⟩
  rw [← W2.out] at q0 q1 HB2
  have Q := Lib.hid (And.intro q0 q1)
  have hb3 : Below w2.heap.size w2 (w2.alloc (.cells #[] 9)) := alloc_below _ _
  clear ha hb q0 q1
  go_enter Try.func57, Try.ntmps57
  go_wp2
  rw [← W2.out]
  clear W2
  go_loopw [5, 6] (fun z i wr => ∃ (k : Nat) (X : List ByteArray), k ≤ la.length ∧ i = .int .i64 (k : Int) ∧ Hid (X = puts8 [] (la.take k)) ∧ Hid (TV wr w.heap.size z X) ∧ Below w2.heap.size w2 wr) (fun _ i _ => la.length - (RowKit.intOf i).toNat)
  case atStart => exact ⟨0, [], Nat.zero_le _, rfl, rfl, ⟨_, _, rfl, .inl rfl⟩, hb3⟩
  case round =>
    obtain ⟨k, X, hk, rfl, HX, HV, hbr⟩ := hrel
    obtain ⟨⟨d0, d1⟩, _⟩ := blk2 ((hbr.block _ (Array.getElem?_eq_some_iff.1 Q.out.1).1).trans Q.out.1)
    obtain ⟨xa, xc, rfl⟩ := HV.out.shape
    by_cases hlt : k < la.length
    · have hltI : (k : Int) < (la.length : Int) := by omega
      obtain ⟨t, ht⟩ : ∃ t, la[k]? = some t := ⟨la[k], List.getElem?_eq_getElem hlt⟩
      obtain ⟨ao, cap, e, hr⟩ := HA.out.1
      injection e with e1 e2 e3
      subst e1; subst e3
      rcases hr with hr | ⟨g, off, rfl, _, gl, hc⟩
      · subst hr; simp at hlt
      have hbw := HB2.out.trans (hbr.mono HB2.out.size)
      have A0 := (hbw.cell (p := ⟨g, off + k * 2, Option.none⟩) gl).trans (hc k t ht).1
      have HX2 : Hid (putR t.s false X = puts8 [] (la.take (k + 1))) := show _ = _ by rw [HX.out, puts8_take _ ht]
      have HL : Hid (X.length ≤ 10000000) := show _ ≤ _ by have := puts8_len (la.take k) []; rw [HX.out]; simp only [List.length_take, List.length_nil] at this; omega
      clear hc ht hbw
      go_wp2_with fail
      refine (l4Put_is X HL.out t.s _ _ HV.out.low).mono ?_
      rintro e w3 ⟨v3, rfl, hv3, hb3⟩
      have HV3 := Lib.hid (hv3.same (Nat.le_trans HB2.out.size hbr.size) (Keeps.refl _ _) (Nat.le_refl _))
      have hbr2 := hbr.trans (hb3.mono hbr.size)
      obtain ⟨ya, yc, rfl⟩ := hv3.shape
      clear hb3 hbr A0 d0 d1 hv3
      go_wp2
      go_roundw
      case rel => exact ⟨k + 1, _, by omega, by go_num, HX2.out, HV3.out, hbr2⟩
      case measure => simp [RowKit.intOf]; omega
    · have hltI : ¬ (k : Int) < (la.length : Int) := by omega
      have hkk : la.take k = la := List.take_of_length_le (by omega)
      have HX1 : Hid (X = puts8 [] la) := show _ = _ by rw [HX.out, hkk]
      clear d0 d1
      obtain ⟨⟨d0, d1⟩, _⟩ := blk2 ((hbr.block _ (Array.getElem?_eq_some_iff.1 Q.out.1).1).trans Q.out.1)
      have HBR := Lib.hid hbr
      clear hbr
      go_wp2
      clear d0 d1
      go_loopw [5, 7] (fun z i wr => ∃ (k : Nat) (X : List ByteArray), k ≤ lb.length ∧ i = .int .i64 (k : Int) ∧ Hid (X = puts8 (puts8 [] la) (lb.take k)) ∧ Hid (TV wr w.heap.size z X) ∧ Below w2.heap.size w2 wr) (fun _ i _ => lb.length - (RowKit.intOf i).toNat)
      case atStart => exact ⟨0, X, Nat.zero_le _, rfl, HX1.out, HV.out, HBR.out⟩
      case round =>
        obtain ⟨q, Y, hq, rfl, HY, HV2, hbr⟩ := hrel
        obtain ⟨⟨d0, d1⟩, _⟩ := blk2 ((hbr.block _ (Array.getElem?_eq_some_iff.1 Q.out.2).1).trans Q.out.2)
        obtain ⟨xa, xc, rfl⟩ := HV2.out.shape
        by_cases hlt2 : q < lb.length
        · have hltI2 : (q : Int) < (lb.length : Int) := by omega
          obtain ⟨t, ht⟩ : ∃ t, lb[q]? = some t := ⟨lb[q], List.getElem?_eq_getElem hlt2⟩
          obtain ⟨ao, cap, e, hr⟩ := HA.out.2
          injection e with e1 e2 e3
          subst e1; subst e3
          rcases hr with hr | ⟨g, off, rfl, _, gl, hc⟩
          · subst hr; simp at hlt2
          have hbw := HB2.out.trans (hbr.mono HB2.out.size)
          have A0 := (hbw.cell (p := ⟨g, off + q * 2, Option.none⟩) gl).trans (hc q t ht).1
          have HX2 : Hid (putR t.s false Y = puts8 (puts8 [] la) (lb.take (q + 1))) := show _ = _ by rw [HY.out, puts8_take _ ht]
          have HL : Hid (Y.length ≤ 10000000) := show _ ≤ _ by
            have h1 := puts8_len (lb.take q) (puts8 [] la)
            have h2 := puts8_len la []
            rw [HY.out]; simp only [List.length_take, List.length_nil] at h1 h2; omega
          clear hc ht hbw
          go_wp2_with fail
          refine (l4Put_is Y HL.out t.s _ _ HV2.out.low).mono ?_
          rintro e w3 ⟨v3, rfl, hv3, hb3⟩
          have HV3 := Lib.hid (hv3.same (Nat.le_trans HB2.out.size hbr.size) (Keeps.refl _ _) (Nat.le_refl _))
          have hbr2 := hbr.trans (hb3.mono hbr.size)
          obtain ⟨ya, yc, rfl⟩ := hv3.shape
          clear hb3 hbr A0 d0 d1 hv3
          go_wp2
          go_roundw
          case rel => exact ⟨q + 1, _, by omega, by go_num, HX2.out, HV3.out, hbr2⟩
          case measure => simp [RowKit.intOf]; omega
        · have hltI2 : ¬ (q : Int) < (lb.length : Int) := by omega
          have hqq : lb.take q = lb := List.take_of_length_le (by omega)
          have hy : Y = puts8 (puts8 [] la) lb := by rw [HY.out, hqq]
          have HZ0 : ∀ Z, Y = Z → Hid (TV wr w.heap.size (.slice xa Y.length xc) Z) := by rintro _ rfl; exact HV2
          have HZ := HZ0 _ hy
          clear HZ0 hy
          go_wp2
          go_ret
          exact ⟨_, rfl, HZ.out, HB2.out.trans (hbr.mono HB2.out.size)⟩
end Go.Proofs.Ytfacenfiocdbgaa
