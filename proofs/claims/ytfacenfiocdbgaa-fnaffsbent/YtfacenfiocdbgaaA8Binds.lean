/-
  The draws of chapter 8: l8Binds.
-/
import Derived.Test.YtfacenfiocdbgaaA8Draw
import Derived.Test.YtfacenfiocdbgaaBindRow
namespace Go.Proofs.Ytfacenfiocdbgaa
open Go.RowKit Go.Lib
set_option linter.unusedSimpArgs false
set_option linter.unusedVariables false

theorem AV.ofOwnB {w : World} {B n c : Nat} {a : Option Addr} {ts : List AR} (h : w.ownsRow B 67 2 (.slice a n c) n (acells ts)) (hn : n = ts.length) : AV w 0 (.slice a n c) ts := by
  subst hn
  rcases h.2 with ⟨h0, h1⟩ | ⟨g, cap, cur, h1, h2, h3, h4⟩
  · have : ts = [] := List.length_eq_zero_iff.1 h1
    subst this
    exact ⟨_, _, h0, .inl rfl⟩
  · have hc := h.cells (g := g) (by rw [h1]; rfl)
    refine ⟨_, cap, h1, .inr ⟨g, 0, rfl, Nat.zero_le _, (Array.getElem?_eq_some_iff.1 h3).1, fun i t hi => ?_⟩⟩
    have hg := acells_get ts i t hi
    have e : ∀ j, (⟨g, 0, Option.none⟩ : Addr).add j = ⟨g, j, Option.none⟩ := fun j => by simp [Addr.add]; omega
    have a := hc _ _ hg.1; have b := hc _ _ hg.2
    rw [e] at a b
    exact ⟨by rw [Nat.zero_add]; exact a, by rw [Nat.zero_add]; exact b⟩
/-- Binds that were drawn. -/
def Bs8 (bs : List AR) : Prop := bs.length ≤ 4 ∧ ∀ t ∈ bs, t.s.size ≤ 3 ∧ -5 ≤ t.n ∧ t.n ≤ 14
def DrawnB8 (B : Nat) (a : Option Addr) (len cap b : Nat) (w : World) (e : Ending) (w' : World) : Prop :=
  ∃ (bs : List AR) (v : Value), e = .returned v ∧ Bs8 bs ∧ w'.ownsRow w.heap.size 67 2 v bs.length (acells bs) ∧ Dw B a len cap b w' ∧ Wr b w w'
set_option maxHeartbeats 4000000 in
set_option maxRecDepth 100000 in
theorem l8Binds_is (B : Nat) (a : Option Addr) (len cap b : Nat) (w : World) (d : Dw B a len cap b w) :
    Calls Try.prog 31 #[.pointer (some ⟨b, 0, none⟩)] w (DrawnB8 B a len cap b w) := by
  obtain ⟨i0, hi0, hz0, hz1, hz2⟩ := info_parts infoIB
  have hbz : b < w.heap.size := d.cur.lt
  have bz := alloc_below w (.cells #[] 67)
  have own0 : (w.alloc (.cells #[] 67)).ownsRow w.heap.size 67 2 (.slice (some ⟨w.heap.size, 0, Option.none⟩) 0 0) 0 (acells []) := ⟨rfl, .inr ⟨w.heap.size, 0, #[], rfl, Nat.le_refl _, heap_last w _, Nat.le_refl _, (by unfold maxLen; omega), rfl, rfl⟩⟩
  have D0 := Lib.hid (d.later bz)
  have WR0 : Hid (Wr b w (w.alloc (.cells #[] 67))) := Wr.of_below bz
  have O0 := Lib.hid own0
  clear d bz own0
  go_enter Try.func31, Try.ntmps31
  go_wp2_with fail
  refine (l1Below_is B a len cap b 5 _ D0.out (by omega)).mono ?_
  rintro e w1 ⟨x, rfl, ⟨x0, x1⟩, d1, wr1⟩
  obtain ⟨y, rfl⟩ := Int.eq_ofNat_of_zero_le x0
  have hs1 : w.heap.size + 1 ≤ w1.heap.size := by have := wr1.size; rwa [World.size_alloc] at this
  have O1 := Lib.hid (own_w8 O0.out wr1 (by omega))
  have D1 := Lib.hid d1
  have WR1 := Lib.hid (WR0.out.trans wr1)
  have hy : y ≤ 4 := by omega
  clear d1 wr1 O0 D0 WR0 x0 x1
  go_wp2
  go_loopw [3, 4] (fun v i wr => ∃ (k : Nat) (X : List AR), i = .int .i64 (k : Int) ∧ Hid (k + X.length ≤ 4) ∧ Hid (∀ t ∈ X, t.s.size ≤ 3 ∧ -5 ≤ t.n ∧ t.n ≤ 14) ∧ Hid (wr.ownsRow w.heap.size 67 2 v X.length (acells X)) ∧ Hid (Dw B a len cap b wr) ∧ Hid (Wr b w wr)) (fun _ i _ => (RowKit.intOf i).toNat)
  case atStart => exact ⟨y, [], rfl, hy, (fun t h => by simp at h), O1.out, D1.out, WR1.out⟩
  case round =>
    obtain ⟨k, X, rfl, HK, HX, HOw, HD, HW⟩ := hrel
    obtain ⟨oa, oc, rfl⟩ := ownShape HOw.out
    by_cases hpos : 0 < k
    · have hposI : (0 : Int) < (k : Int) := by omega
      have hkI : (k : Int) ≤ 4 := by have := HK.out; omega
      have ba := alloc_below wr (.cells #[.string ⟨#[105]⟩, .string ⟨#[106]⟩, .string ⟨#[107]⟩, .string ⟨#[120]⟩] 9)
      have hbw4 : b < wr.heap.size := HD.out.cur.lt
      go_wp2_with fail
      refine (l1Str_is B a len cap b wr.heap.size 4 4 (fun z => z.size ≤ 3) _ (HD.out.later ba) (by omega) (by omega) (by omega) (fun j hj => strs_cell wr [⟨#[105]⟩, ⟨#[106]⟩, ⟨#[107]⟩, ⟨#[120]⟩] _ (by decide) _ rfl j hj)).mono ?_
      rintro e w5 ⟨ss, rfl, hss, d5, wr5⟩
      have HSS := Lib.hid hss
      have D5 := Lib.hid d5
      have U5 : Hid (Wr b wr w5) := (Wr.of_below ba).trans wr5
      clear hss d5 wr5 ba
      go_wp2_with fail
      refine (l1Below_is B a len cap b 20 _ D5.out (by omega)).mono ?_
      rintro e w6 ⟨z, rfl, ⟨z0, z1⟩, d6, wr6⟩
      obtain ⟨nn, hnn⟩ : ∃ nn, z - 5 = nn := ⟨_, rfl⟩
      have HNN : Hid (-5 ≤ nn ∧ nn ≤ 14) := show _ ∧ _ by omega
      have D6 := Lib.hid d6
      have U6 : Hid (Wr b wr w6) := U5.out.trans wr6
      have O6 := Lib.hid (own_w8 HOw.out U6.out (by omega))
      have W6 := Lib.hid (HW.out.trans U6.out)
      have HV := Lib.hid O6.out.lt
      have hq5 : w.heap.size ≤ w6.heap.size := W6.out.size
      clear d6 wr6
      go_wp2_with (at_builtin; refine wpList_append_own _ rfl _ _ 27 rfl w.heap.size 67 i0 _ 2 24 Try.underlying27 hi0 hz0 hz1 hz2 rfl (by decide) _ _ _ rfl (O6.out.alloc _) ⟨w6.heap.size, 0, Option.none⟩ 1 1 [.string ss, .int .i64 nn] rfl rfl (new2T _ _ _ _) ?cb2 ?cb3 ?cb4 ?cb5 ?_)
      case cb2 => exact two8 _ _
      case cb3 => have := HK.out; unfold maxLen; omega
      case cb4 => have := HK.out; omega
      case cb5 => simp; omega
      intro v' w8 hown8 hgrow8 _
      obtain ⟨a8, c8, rfl⟩ := ownShape hown8
      have F8 : Below w.heap.size w6 w8 := ((Below.refl _ w6).alloc hq5 _).grown hgrow8 (by simp; omega) (fun k hk => (HV.out k hk).1)
      have D8 := Lib.hid (D6.out.below8 F8 hbz)
      have W8 := Lib.hid (W6.out.below8 F8 (Nat.le_refl _))
      have HK9 : Hid (k - 1 + (X ++ [(⟨ss, nn⟩ : AR)]).length ≤ 4) := show _ ≤ _ by have := HK.out; simp; omega
      have HX9 : Hid (∀ t ∈ X ++ [(⟨ss, nn⟩ : AR)], t.s.size ≤ 3 ∧ -5 ≤ t.n ∧ t.n ≤ 14) := show ∀ t ∈ _, _ from by
        intro t ht
        rcases List.mem_append.1 ht with ht | ht
        · exact HX.out t ht
        · simp only [List.mem_cons, List.not_mem_nil, or_false] at ht
          subst ht
          exact ⟨HSS.out, HNN.out⟩
      have O9 : Hid (w8.ownsRow w.heap.size 67 2 (.slice a8 (X.length + 1) c8) (X ++ [(⟨ss, nn⟩ : AR)]).length (acells (X ++ [(⟨ss, nn⟩ : AR)]))) := by
        rw [List.length_append, acells_snoc]
        exact hown8
      clear hown8 hgrow8 F8 z0 z1 hnn
      go_wp2
      go_roundw
      case rel => exact ⟨k - 1, X ++ [(⟨ss, nn⟩ : AR)], by go_num, HK9.out, HX9.out, O9.out, D8.out, W8.out⟩
      case measure => simp [RowKit.intOf]; omega
    · obtain rfl : k = 0 := by omega
      have HB : Hid (Bs8 X) := ⟨by have := HK.out; omega, HX.out⟩
      go_wp2
      go_ret
      exact ⟨X, _, rfl, HB.out, HOw.out, HD.out, HW.out⟩
end Go.Proofs.Ytfacenfiocdbgaa
