/-
  Texts in one: A8Binds, A8Draws.
-/
import Derived.Test.YtfacenfiocdbgaaP27ofFnAffs
import Derived.Test.YtfacenfiocdbgaaP28ofFnAffs
/-
  The draws of chapter 8: l8Binds.
-/
namespace Go.Proofs.Ytfacenfiocdbgaa
open Go.RowKit Go.Lib
set_option linter.unusedSimpArgs false
set_option linter.unusedVariables false

theorem AV.ofOwnB {w : World} {B n c : Nat} {a : Option Addr} {ts : List AR} (h : w.ownsRow B 67 2 (.slice a n c) n (acells ts)) (hn : n = ts.length) : AV w 0 (.slice a n c) ts := by
  subst hn
  rcases h.2 with ⟨h0, h1⟩ | ⟨g, cap, cur, h1, h2, h3, h4⟩
  · have : ts = [] := List.length_eq_zero_iff.1 h1
    subst this
    exact ⟨_, _, h0, .inl rfl⟩
  · have hc := h.cells (g := g) (by rw [h1]; rfl)
    refine ⟨_, cap, h1, .inr ⟨g, 0, rfl, Nat.zero_le _, (Array.getElem?_eq_some_iff.1 h3).1, fun i t hi => ?_⟩⟩
    have hg := acells_get ts i t hi
    have e : ∀ j, (⟨g, 0, Option.none⟩ : Addr).add j = ⟨g, j, Option.none⟩ := fun j => by simp [Addr.add]; omega
    have a := hc _ _ hg.1; have b := hc _ _ hg.2
    rw [e] at a b
    exact ⟨by rw [Nat.zero_add]; exact a, by rw [Nat.zero_add]; exact b⟩
/-- Binds that were drawn. -/
def Bs8 (bs : List AR) : Prop := bs.length ≤ 4 ∧ ∀ t ∈ bs, t.s.size ≤ 3 ∧ -5 ≤ t.n ∧ t.n ≤ 14
def DrawnB8 (B : Nat) (a : Option Addr) (len cap b : Nat) (w : World) (e : Ending) (w' : World) : Prop :=
  ∃ (bs : List AR) (v : Value), e = .returned v ∧ Bs8 bs ∧ w'.ownsRow w.heap.size 67 2 v bs.length (acells bs) ∧ Dw B a len cap b w' ∧ Wr b w w'
set_option maxHeartbeats 4000000 in
set_option maxRecDepth 100000 in
theorem l8Binds_is (B : Nat) (a : Option Addr) (len cap b : Nat) (w : World) (d : Dw B a len cap b w) :
    Calls Try.prog 31 #[.pointer (some ⟨b, 0, none⟩)] w (DrawnB8 B a len cap b w) := by
  obtain ⟨i0, hi0, hz0, hz1, hz2⟩ := info_parts infoIB
  have hbz : b < w.heap.size := d.cur.lt
  have bz := alloc_below w (.cells #[] 67)
  have own0 : (w.alloc (.cells #[] 67)).ownsRow w.heap.size 67 2 (.slice (some ⟨w.heap.size, 0, Option.none⟩) 0 0) 0 (acells []) := ⟨rfl, .inr ⟨w.heap.size, 0, #[], rfl, Nat.le_refl _, heap_last w _, Nat.le_refl _, (by unfold maxLen; omega), rfl, rfl⟩⟩
  have D0 := Lib.hid (d.later bz)
  have WR0 : Hid (Wr b w (w.alloc (.cells #[] 67))) := Wr.of_below bz
  have O0 := Lib.hid own0
  clear d bz own0
  go_enter Try.func31, Try.ntmps31
  go_wp2_with fail
  refine (l1Below_is B a len cap b 5 _ D0.out (by omega)).mono ?_
  rintro e w1 ⟨x, rfl, ⟨x0, x1⟩, d1, wr1⟩
  obtain ⟨y, rfl⟩ := Int.eq_ofNat_of_zero_le x0
  have hs1 : w.heap.size + 1 ≤ w1.heap.size := by have := wr1.size; rwa [World.size_alloc] at this
  have O1 := Lib.hid (own_w8 O0.out wr1 (by omega))
  have D1 := Lib.hid d1
  have WR1 := Lib.hid (WR0.out.trans wr1)
  have hy : y ≤ 4 := by omega
  clear d1 wr1 O0 D0 WR0 x0 x1
  go_wp2
  go_loopw [3, 4] (fun v i wr => ∃ (k : Nat) (X : List AR), i = .int .i64 (k : Int) ∧ Hid (k + X.length ≤ 4) ∧ Hid (∀ t ∈ X, t.s.size ≤ 3 ∧ -5 ≤ t.n ∧ t.n ≤ 14) ∧ Hid (wr.ownsRow w.heap.size 67 2 v X.length (acells X)) ∧ Hid (Dw B a len cap b wr) ∧ Hid (Wr b w wr)) (fun _ i _ => (RowKit.intOf i).toNat)
  case atStart => exact ⟨y, [], rfl, hy, (fun t h => by simp at h), O1.out, D1.out, WR1.out⟩
  case round =>
    obtain ⟨k, X, rfl, HK, HX, HOw, HD, HW⟩ := hrel
    obtain ⟨oa, oc, rfl⟩ := ownShape HOw.out
    by_cases hpos : 0 < k
    · have hposI : (0 : Int) < (k : Int) := by omega
      have hkI : (k : Int) ≤ 4 := by have := HK.out; omega
      have ba := alloc_below wr (.cells #[.string ⟨#[105]⟩, .string ⟨#[106]⟩, .string ⟨#[107]⟩, .string ⟨#[120]⟩] 9)
      have hbw4 : b < wr.heap.size := HD.out.cur.lt
      go_wp2_with fail
      refine (l1Str_is B a len cap b wr.heap.size 4 4 (fun z => z.size ≤ 3) _ (HD.out.later ba) (by omega) (by omega) (by omega) (fun j hj => strs_cell wr [⟨#[105]⟩, ⟨#[106]⟩, ⟨#[107]⟩, ⟨#[120]⟩] _ (by decide) _ rfl j hj)).mono ?_
      rintro e w5 ⟨ss, rfl, hss, d5, wr5⟩
      have HSS := Lib.hid hss
      have D5 := Lib.hid d5
      have U5 : Hid (Wr b wr w5) := (Wr.of_below ba).trans wr5
      clear hss d5 wr5 ba
      go_wp2_with fail
      refine (l1Below_is B a len cap b 20 _ D5.out (by omega)).mono ?_
      rintro e w6 ⟨z, rfl, ⟨z0, z1⟩, d6, wr6⟩
      obtain ⟨nn, hnn⟩ : ∃ nn, z - 5 = nn := ⟨_, rfl⟩
      have HNN : Hid (-5 ≤ nn ∧ nn ≤ 14) := show _ ∧ _ by omega
      have D6 := Lib.hid d6
      have U6 : Hid (Wr b wr w6) := U5.out.trans wr6
      have O6 := Lib.hid (own_w8 HOw.out U6.out (by omega))
      have W6 := Lib.hid (HW.out.trans U6.out)
      have HV := Lib.hid O6.out.lt
      have hq5 : w.heap.size ≤ w6.heap.size := W6.out.size
      clear d6 wr6
      go_wp2_with (at_builtin; refine wpList_append_own _ rfl _ _ 27 rfl w.heap.size 67 i0 _ 2 24 Try.underlying27 hi0 hz0 hz1 hz2 rfl (by decide) _ _ _ rfl (O6.out.alloc _) ⟨w6.heap.size, 0, Option.none⟩ 1 1 [.string ss, .int .i64 nn] rfl rfl (new2T _ _ _ _) ?cb2 ?cb3 ?cb4 ?cb5 ?_)
      case cb2 => exact two8 _ _
      case cb3 => have := HK.out; unfold maxLen; omega
      case cb4 => have := HK.out; omega
      case cb5 => simp; omega
      intro v' w8 hown8 hgrow8 _
      obtain ⟨a8, c8, rfl⟩ := ownShape hown8
      have F8 : Below w.heap.size w6 w8 := ((Below.refl _ w6).alloc hq5 _).grown hgrow8 (by simp; omega) (fun k hk => (HV.out k hk).1)
      have D8 := Lib.hid (D6.out.below8 F8 hbz)
      have W8 := Lib.hid (W6.out.below8 F8 (Nat.le_refl _))
      have HK9 : Hid (k - 1 + (X ++ [(⟨ss, nn⟩ : AR)]).length ≤ 4) := show _ ≤ _ by have := HK.out; simp; omega
      have HX9 : Hid (∀ t ∈ X ++ [(⟨ss, nn⟩ : AR)], t.s.size ≤ 3 ∧ -5 ≤ t.n ∧ t.n ≤ 14) := show ∀ t ∈ _, _ from by
        intro t ht
        rcases List.mem_append.1 ht with ht | ht
        · exact HX.out t ht
        · simp only [List.mem_cons, List.not_mem_nil, or_false] at ht
          subst ht
          exact ⟨HSS.out, HNN.out⟩
      have O9 : Hid (w8.ownsRow w.heap.size 67 2 (.slice a8 (X.length + 1) c8) (X ++ [(⟨ss, nn⟩ : AR)]).length (acells (X ++ [(⟨ss, nn⟩ : AR)]))) := by
        rw [List.length_append, acells_snoc]
        exact hown8
      clear hown8 hgrow8 F8 z0 z1 hnn
      go_wp2
      go_roundw
      case rel => exact ⟨k - 1, X ++ [(⟨ss, nn⟩ : AR)], by go_num, HK9.out, HX9.out, O9.out, D8.out, W8.out⟩
      case measure => simp [RowKit.intOf]; omega
    · obtain rfl : k = 0 := by omega
      have HB : Hid (Bs8 X) := ⟨by have := HK.out; omega, HX.out⟩
      go_wp2
      go_ret
      exact ⟨X, _, rfl, HB.out, HOw.out, HD.out, HW.out⟩
end Go.Proofs.Ytfacenfiocdbgaa
/-
  What the laws of chapter 8 draw.
-/
namespace Go.Proofs.Ytfacenfiocdbgaa
open Go.RowKit Go.Lib
set_option linter.unusedSimpArgs false
set_option linter.unusedVariables false

theorem Wr.lowto {b n : Nat} {A B : World} (h : Wr b A B) (hB : n ≤ b) (hs : n ≤ A.heap.size) : Below n A B := ⟨h.os, h.tape, h.output, h.size, fun k hk => h.block k (by omega) (by omega)⟩
/-- A sum that lies there, its row at lo or above. -/
def SumAt (p : Int → List AR → Prop) (w : World) (lo : Nat) (c : Int) (ts : List AR) (v : Value) : Prop := p c ts ∧ w.ownsRow lo 59 2 v ts.length (acells ts)
theorem two_set (A : World) (p : Nat) (u v : Value) : A.grownBy ((A.setCell ⟨p, 0, Option.none⟩ u).setCell ⟨p, 1, Option.none⟩ v) (some p) := grown_set8 (grown_set8 (World.grownBy.refl _ _) _ _) _ _
theorem two_at {A : World} {p : Nat} {x y u v : Value} {t : TypeId} (h : A.heap[p]? = some (.cells #[x, y] t)) : ((A.setCell ⟨p, 0, Option.none⟩ u).setCell ⟨p, 1, Option.none⟩ v).heap[p]? = some (.cells #[u, v] t) :=
  Go.heap_setCell_same _ _ 1 _ _ v (Go.heap_setCell_same _ _ 0 _ _ u h)
/-- A sum was drawn. -/
def DrawnF8 (p : Int → List AR → Prop) (w : World) (e : Ending) (w' : World) : Prop := ∃ (c : Int) (ts : List AR) (v : Value), e = .returned (.agg #[.int .i64 c, v]) ∧ p c ts ∧ w'.ownsRow w.heap.size 59 2 v ts.length (acells ts) ∧ Below w.heap.size w w'
set_option maxHeartbeats 2000000 in
set_option maxRecDepth 100000 in
theorem DrawAffOk_is (a : Option Addr) (len cap : Nat) (w : World) (hlen : len ≤ 281474976710656) (hC : CodeIs w.heap.size w a len) : Calls Try.prog 15 #[.slice a len cap] w (DrawnF8 Any8 w) := by
  have HC := Lib.hid hC
  clear hC
  have b0 := alloc_below w (.cells #[.int .i64 0, .slice Option.none 0 0] 26)
  have hs0 : (w.alloc (.cells #[.int .i64 0, .slice Option.none 0 0] 26)).heap.size = w.heap.size + 1 := by simp
  have R0 := Lib.hid (heap_last w (.cells #[.int .i64 0, .slice Option.none 0 0] 26))
  have C1 := Lib.hid ((HC.out.later b0).mono (show w.heap.size ≤ w.heap.size + 1 by omega))
  have B0 := Lib.hid b0
  clear b0
  go_enter Try.func15, Try.ntmps15
  go_wp2_with fail
  refine (l1New (w.heap.size + 1) a len cap _ hlen C1.out).mono ?_
  rintro e w1 ⟨rfl, hcur, hb1⟩
  rw [hs0] at hcur hb1 ⊢
  have D1 : Hid (Dw (w.heap.size + 1) a len cap (w.heap.size + 1) w1) := ⟨hlen, Nat.le_refl _, C1.out.later hb1, hcur⟩
  have R1 := Lib.hid (heap_n8 R0.out hb1 (by omega))
  have B1 := Lib.hid (B0.out.trans (hb1.mono (by omega)))
  have hz1 : w.heap.size + 1 + 1 ≤ w1.heap.size := D1.out.cur.lt
  clear hcur hb1 R0 B0 C1 HC hs0
  go_wp2_with fail
  refine (l8Any_is (w.heap.size + 1) a len cap (w.heap.size + 1) _ D1.out).mono ?_
  rintro e w2 ⟨c, ts, v, rfl, hp2, own2, d2, wr2⟩
  obtain ⟨va, vc, rfl⟩ := ownShape own2
  have P2 := Lib.hid hp2
  have O2 := Lib.hid own2
  have D2 := Lib.hid d2
  have hz2 := wr2.size
  have r2 := heap_w8 R1.out wr2 (by omega)
  have R2 := Lib.hid r2
  have B2 := Lib.hid (B1.out.trans (wr2.lowto (by omega) (by omega)))
  obtain ⟨⟨e0, e1⟩, k0, k1⟩ := blk2 r2
  clear hp2 own2 d2 wr2 r2 R1 B1 D1
  go_wp2
  have h1 := two_at (u := .int .i64 c) (v := .slice va ts.length vc) R2.out
  obtain ⟨⟨z0, z1⟩, _⟩ := blk2 h1
  have gS := two_set w2 w.heap.size (.int .i64 c) (.slice va ts.length vc)
  refine bodyPost_ret (v := .agg #[.int .i64 c, .slice va ts.length vc]) (by simp [results, Try.results15, go_sem, z0, z1]) rfl ⟨c, ts, .slice va ts.length vc, rfl, P2.out, ownMono8 (by omega) (own_g8 O2.out gS (fun k h1 h2 => by have := (O2.out.lt k h1).1; injection h2 with h2; omega)), low_g8 B2.out gS (Nat.le_refl _) (fun k h => by injection h with h; omega)⟩
/-- Two sums were drawn. -/
def DrawnG8 (p : Int → List AR → Prop) (w : World) (e : Ending) (w' : World) : Prop := ∃ (c c' : Int) (ts ts' : List AR) (v v' : Value), e = .returned (.tuple #[.agg #[.int .i64 c, v], .agg #[.int .i64 c', v']]) ∧ p c ts ∧ p c' ts' ∧ w'.ownsRow w.heap.size 59 2 v ts.length (acells ts) ∧ w'.ownsRow w.heap.size 59 2 v' ts'.length (acells ts') ∧ Below w.heap.size w w'
set_option maxHeartbeats 4000000 in
set_option maxRecDepth 100000 in
theorem DrawAddA_is (a : Option Addr) (len cap : Nat) (w : World) (hlen : len ≤ 281474976710656) (hC : CodeIs w.heap.size w a len) : Calls Try.prog 16 #[.slice a len cap] w (DrawnG8 Any8 w) := by
  have HC := Lib.hid hC
  clear hC
  have b0 : Below w.heap.size w ((w.alloc (.cells #[.int .i64 0, .slice Option.none 0 0] 26)).alloc (.cells #[.int .i64 0, .slice Option.none 0 0] 26)) := (alloc_below w _).alloc (by simp) _
  have hs0 : ((w.alloc (.cells #[.int .i64 0, .slice Option.none 0 0] 26)).alloc (.cells #[.int .i64 0, .slice Option.none 0 0] 26)).heap.size = w.heap.size + 1 + 1 := by simp
  have R0 := Lib.hid (heap2t w (.cells #[.int .i64 0, .slice Option.none 0 0] 26) (.cells #[.int .i64 0, .slice Option.none 0 0] 26))
  have C1 := Lib.hid ((HC.out.later b0).mono (show w.heap.size ≤ w.heap.size + 1 + 1 by omega))
  have B0 := Lib.hid b0
  clear b0
  go_enter Try.func16, Try.ntmps16
  go_wp2_with fail
  refine (l1New (w.heap.size + 1 + 1) a len cap _ hlen C1.out).mono ?_
  rintro e w1 ⟨rfl, hcur, hb1⟩
  rw [hs0] at hcur hb1 ⊢
  have D1 : Hid (Dw (w.heap.size + 1 + 1) a len cap (w.heap.size + 1 + 1) w1) := ⟨hlen, Nat.le_refl _, C1.out.later hb1, hcur⟩
  have R1 := Lib.hid (heap_n8 R0.out.1 hb1 (by omega))
  have S1 := Lib.hid (heap_n8 R0.out.2 hb1 (by omega))
  have B1 := Lib.hid (B0.out.trans (hb1.mono (by omega)))
  have hz1 : w.heap.size + 1 + 1 + 1 ≤ w1.heap.size := D1.out.cur.lt
  clear hcur hb1 R0 B0 C1 HC hs0
  go_wp2_with fail
  refine (l8Any_is (w.heap.size + 1 + 1) a len cap (w.heap.size + 1 + 1) _ D1.out).mono ?_
  rintro e w2 ⟨c, ts, v, rfl, hp2, own2, d2, wr2⟩
  obtain ⟨va, vc, rfl⟩ := ownShape own2
  have P2 := Lib.hid hp2
  have O2 := Lib.hid own2
  have D2 := Lib.hid d2
  have hz2 := wr2.size
  have ba := alloc_below w2 (.cells #[.int .i64 c, .slice va ts.length vc] 26)
  have R2 := Lib.hid (heap_b8 (heap_w8 R1.out wr2 (by omega)) ba)
  have S2 := Lib.hid (heap_b8 (heap_w8 S1.out wr2 (by omega)) ba)
  have B2 := Lib.hid ((B1.out.trans (wr2.lowto (by omega) (by omega))).trans (ba.mono (by omega)))
  have T2 := Lib.hid (heap_last w2 (.cells #[.int .i64 c, .slice va ts.length vc] 26))
  have D3 := Lib.hid (D2.out.later ba)
  have O3 := Lib.hid (own_below8 O2.out ba)
  clear hp2 own2 d2 wr2 R1 S1 B1 D1 D2 O2 ba
  go_wp2_with fail
  obtain ⟨w3, Wd⟩ : ∃ w3, Hid (w3 = (w2.alloc (.cells #[.int .i64 c, .slice va ts.length vc] 26)).drew) := ⟨_, rfl⟩
  have bd : Below (w2.alloc (.cells #[.int .i64 c, .slice va ts.length vc] 26)).heap.size (w2.alloc (.cells #[.int .i64 c, .slice va ts.length vc] 26)) w3 := by rw [Wd.out]; exact (Below.refl _ _).drew
  have hz3 : (w2.alloc (.cells #[.int .i64 c, .slice va ts.length vc] 26)).heap.size ≤ w3.heap.size := bd.size
  rw [World.size_alloc] at hz3
  have hS := heap_b8 T2.out bd
  refine wp_region_last (fun w' => w'.heap[w2.heap.size]? = some (.cells #[.int .i64 c, .slice va ts.length vc] 26)) 4 (by kernel_rfl) ?_
  rw [← Wd.out]
  have R3 := Lib.hid (heap_b8 R2.out bd)
  have S3 := Lib.hid (heap_b8 S2.out bd)
  have B3 := Lib.hid (B2.out.trans (bd.mono B2.out.size))
  have D4 := Lib.hid (D3.out.later bd)
  have O4 := Lib.hid (own_below8 O3.out bd)
  clear bd Wd R2 S2 B2 D3 O3 T2
  refine wpAnyL_take (i := 0) (v := .agg #[.int .i64 c, .slice va ts.length vc]) rfl (by kernel_rfl) (by kernel_rfl) (by kernel_rfl) (by kernel_rfl) (fun _ _ _ h => h) (Or.inl ⟨by rfl, ?yda0⟩) hS ?_
  case yda0 => intro w hSw; obtain ⟨⟨j0, j1⟩, _⟩ := blk2 hSw; go_simp
  simp only [Act.put, List.getElem_toArray, List.getElem_cons_succ, List.getElem_cons_zero, List.setIfInBounds_toArray, List.set_cons_zero, List.set_cons_succ]
  refine wpAnyL_take (i := 1) (v := .pointer (some ⟨w.heap.size + 1 + 1, 0, Option.none⟩)) rfl (by kernel_rfl) (by kernel_rfl) (by kernel_rfl) (by kernel_rfl) (fun _ _ _ h => h) (Or.inl ⟨by rfl, ?yda1⟩) hS ?_
  case yda1 => intro w hSw; go_simp
  simp only [Act.put, List.getElem_toArray, List.getElem_cons_succ, List.getElem_cons_zero, List.setIfInBounds_toArray, List.set_cons_zero, List.set_cons_succ]
  refine wpAnyL_ready (rs := [2]) (by kernel_rfl) (by simp) ?_
  refine AllReadyL.cons rfl (fun K hK => ?_) AllReadyL.nil
  rw [if_pos (by rfl)]
  simp only [List.getElem_toArray, List.getElem_cons_succ, List.getElem_cons_zero]
  go_wp2_with fail
  refine (l8Any_is (w.heap.size + 1 + 1) a len cap (w.heap.size + 1 + 1) _ D4.out).mono ?_
  rintro e w4 ⟨c1, ts1, v1, rfl, hp5, own5, d5, wr5⟩
  obtain ⟨v1a, v1c, rfl⟩ := ownShape own5
  have P5 := Lib.hid hp5
  have O5 := Lib.hid own5
  have D5 := Lib.hid d5
  have hz5 := wr5.size
  have R5 := Lib.hid (heap_w8 R3.out wr5 (by omega))
  have S5 := Lib.hid (heap_w8 S3.out wr5 (by omega))
  have O6 := Lib.hid (own_w8 O4.out wr5 (by omega))
  have B5 := Lib.hid (B3.out.trans (wr5.lowto (by omega) (by have := B3.out.size; omega)))
  have hw5 := wr5
  go_wp2_with fail
  have hS2 := heap_w8 hS hw5 (by omega)
  refine hK.out _ _ (fun _ => hS2) ?_
  clear hS hK
  have hS := hS2
  clear hS2
  clear hp5 own5 d5 wr5 hw5 R3 S3 O4 B3 D4
  refine wpAnyL_ready (rs := [3]) (by kernel_rfl) (by simp) ?_
  refine AllReadyL.cons rfl (fun K hK => ?_) AllReadyL.nil
  rw [if_pos (by rfl)]
  simp only [List.getElem_toArray, List.getElem_cons_succ, List.getElem_cons_zero]
  obtain ⟨⟨e0, e1⟩, k0, k1⟩ := blk2 R5.out
  go_wp2_with fail
  have gS := two_set w4 (w.heap.size) (.int .i64 c) (.slice va ts.length vc)
  have hh := two_at (u := .int .i64 c) (v := .slice va ts.length vc) R5.out
  have hS2 := heap_g8 hS gS (fun e => by injection e with e; omega)
  refine hK.out _ _ (fun _ => hS2) ?_
  clear hS hK
  have hS := hS2
  clear hS2
  obtain ⟨w6, W6⟩ : ∃ w6, Hid (w6 = (w4.setCell ⟨w.heap.size, 0, Option.none⟩ (.int .i64 c)).setCell ⟨w.heap.size, 1, Option.none⟩ (.slice va ts.length vc)) := ⟨_, rfl⟩
  rw [← W6.out] at gS hh hS ⊢
  have R7 := Lib.hid hh
  have S7 := Lib.hid (heap_g8 S5.out gS (fun e => by injection e with e; omega))
  have O7 := Lib.hid (own_g8 O6.out gS (fun k h1 h2 => by have := (O6.out.lt k h1).1; injection h2 with h2; omega))
  have O8 := Lib.hid (own_g8 O5.out gS (fun k h1 h2 => by have := (O5.out.lt k h1).1; injection h2 with h2; omega))
  have B7 := Lib.hid (low_g8 B5.out gS (Nat.le_refl _) (fun k h => by injection h with h; omega))
  clear gS hh W6 e0 e1 k0 k1 R5 S5 O5 O6 B5
  refine wpAnyL_ready (rs := [4]) (by kernel_rfl) (by simp) ?_
  refine AllReadyL.cons rfl (fun K hK => ?_) AllReadyL.nil
  rw [if_pos (by rfl)]
  simp only [List.getElem_toArray, List.getElem_cons_succ, List.getElem_cons_zero]
  obtain ⟨⟨e0, e1⟩, k0, k1⟩ := blk2 S7.out
  go_wp2_with fail
  have gS := two_set w6 (w.heap.size + 1) (.int .i64 c1) (.slice v1a ts1.length v1c)
  have hh := two_at (u := .int .i64 c1) (v := .slice v1a ts1.length v1c) S7.out
  refine hK.out _ _ (fun e => absurd rfl e) ?_
  clear hK hS
  refine wpAnyL_done (by kernel_rfl) ?_ _
  obtain ⟨w7, W7⟩ : ∃ w7, Hid (w7 = (w6.setCell ⟨w.heap.size + 1, 0, Option.none⟩ (.int .i64 c1)).setCell ⟨w.heap.size + 1, 1, Option.none⟩ (.slice v1a ts1.length v1c)) := ⟨_, rfl⟩
  rw [← W7.out] at gS hh ⊢
  obtain ⟨⟨x0, x1⟩, _⟩ := blk2 (heap_g8 R7.out gS (fun e => by injection e with e; omega))
  obtain ⟨⟨x2, x3⟩, _⟩ := blk2 hh
  have O9 := Lib.hid (own_g8 O7.out gS (fun k h1 h2 => by have := (O7.out.lt k h1).1; injection h2 with h2; omega))
  have O10 := Lib.hid (own_g8 O8.out gS (fun k h1 h2 => by have := (O8.out.lt k h1).1; injection h2 with h2; omega))
  have B9 := Lib.hid (low_g8 B7.out gS (Nat.le_refl _) (fun k h => by injection h with h; omega))
  clear gS hh W7 e0 e1 k0 k1 R7 S7 O7 O8 B7
  go_wp2
  refine bodyPost_ret (v := .tuple #[.agg #[.int .i64 c, .slice va ts.length vc], .agg #[.int .i64 c1, .slice v1a ts1.length v1c]]) (by simp [results, Try.results16, go_sem, x0, x1, x2, x3]) rfl ⟨c, c1, ts, ts1, _, _, rfl, P2.out, P5.out, ownMono8 (by omega) O9.out, ownMono8 (by omega) O10.out, B9.out⟩
/-- A sum and binds were drawn. -/
def DrawnH8 (p : Int → List AR → Prop) (w : World) (e : Ending) (w' : World) : Prop := ∃ (c : Int) (ts bs : List AR) (v u : Value), e = .returned (.tuple #[.agg #[.int .i64 c, v], u]) ∧ p c ts ∧ Bs8 bs ∧ w'.ownsRow w.heap.size 59 2 v ts.length (acells ts) ∧ w'.ownsRow w.heap.size 67 2 u bs.length (acells bs) ∧ Below w.heap.size w w'
set_option maxHeartbeats 4000000 in
set_option maxRecDepth 100000 in
theorem DrawAffAt_is (a : Option Addr) (len cap : Nat) (w : World) (hlen : len ≤ 281474976710656) (hC : CodeIs w.heap.size w a len) : Calls Try.prog 19 #[.slice a len cap] w (DrawnH8 Any8 w) := by
  have HC := Lib.hid hC
  clear hC
  have b0 := alloc_below w (.cells #[.int .i64 0, .slice Option.none 0 0] 26)
  have hs0 : (w.alloc (.cells #[.int .i64 0, .slice Option.none 0 0] 26)).heap.size = w.heap.size + 1 := by simp
  have R0 := Lib.hid (heap_last w (.cells #[.int .i64 0, .slice Option.none 0 0] 26))
  have C1 := Lib.hid ((HC.out.later b0).mono (show w.heap.size ≤ w.heap.size + 1 by omega))
  have B0 := Lib.hid b0
  clear b0
  go_enter Try.func19, Try.ntmps19
  go_wp2_with fail
  refine (l1New (w.heap.size + 1) a len cap _ hlen C1.out).mono ?_
  rintro e w1 ⟨rfl, hcur, hb1⟩
  rw [hs0] at hcur hb1 ⊢
  have D1 : Hid (Dw (w.heap.size + 1) a len cap (w.heap.size + 1) w1) := ⟨hlen, Nat.le_refl _, C1.out.later hb1, hcur⟩
  have R1 := Lib.hid (heap_n8 R0.out hb1 (by omega))
  have B1 := Lib.hid (B0.out.trans (hb1.mono (by omega)))
  have hz1 : w.heap.size + 1 + 1 ≤ w1.heap.size := D1.out.cur.lt
  clear hcur hb1 R0 B0 C1 HC hs0
  go_wp2_with fail
  refine (l8Any_is (w.heap.size + 1) a len cap (w.heap.size + 1) _ D1.out).mono ?_
  rintro e w2 ⟨c, ts, v, rfl, hp2, own2, d2, wr2⟩
  obtain ⟨va, vc, rfl⟩ := ownShape own2
  have P2 := Lib.hid hp2
  have O2 := Lib.hid own2
  have D2 := Lib.hid d2
  have hz2 := wr2.size
  have ba := alloc_below w2 (.cells #[.int .i64 c, .slice va ts.length vc] 26)
  have R2 := Lib.hid (heap_b8 (heap_w8 R1.out wr2 (by omega)) ba)
  have B2 := Lib.hid ((B1.out.trans (wr2.lowto (by omega) (by omega))).trans (ba.mono (by omega)))
  have T2 := Lib.hid (heap_last w2 (.cells #[.int .i64 c, .slice va ts.length vc] 26))
  have D3 := Lib.hid (D2.out.later ba)
  have O3 := Lib.hid (own_below8 O2.out ba)
  clear hp2 own2 d2 wr2 R1 B1 D1 D2 O2 ba
  go_wp2_with fail
  obtain ⟨w3, Wd⟩ : ∃ w3, Hid (w3 = (w2.alloc (.cells #[.int .i64 c, .slice va ts.length vc] 26)).drew) := ⟨_, rfl⟩
  have bd : Below (w2.alloc (.cells #[.int .i64 c, .slice va ts.length vc] 26)).heap.size (w2.alloc (.cells #[.int .i64 c, .slice va ts.length vc] 26)) w3 := by rw [Wd.out]; exact (Below.refl _ _).drew
  have hz3 : (w2.alloc (.cells #[.int .i64 c, .slice va ts.length vc] 26)).heap.size ≤ w3.heap.size := bd.size
  rw [World.size_alloc] at hz3
  have hS := heap_b8 T2.out bd
  refine wp_region_last (fun w' => w'.heap[w2.heap.size]? = some (.cells #[.int .i64 c, .slice va ts.length vc] 26)) 4 (by kernel_rfl) ?_
  rw [← Wd.out]
  have R3 := Lib.hid (heap_b8 R2.out bd)
  have B3 := Lib.hid (B2.out.trans (bd.mono B2.out.size))
  have D4 := Lib.hid (D3.out.later bd)
  have O4 := Lib.hid (own_below8 O3.out bd)
  clear bd Wd R2 B2 D3 O3 T2
  refine wpAnyL_take (i := 0) (v := .agg #[.int .i64 c, .slice va ts.length vc]) rfl (by kernel_rfl) (by kernel_rfl) (by kernel_rfl) (by kernel_rfl) (fun _ _ _ h => h) (Or.inl ⟨by rfl, ?yda0⟩) hS ?_
  case yda0 => intro w hSw; obtain ⟨⟨j0, j1⟩, _⟩ := blk2 hSw; go_simp
  simp only [Act.put, List.getElem_toArray, List.getElem_cons_succ, List.getElem_cons_zero, List.setIfInBounds_toArray, List.set_cons_zero, List.set_cons_succ]
  refine wpAnyL_take (i := 1) (v := .pointer (some ⟨w.heap.size + 1, 0, Option.none⟩)) rfl (by kernel_rfl) (by kernel_rfl) (by kernel_rfl) (by kernel_rfl) (fun _ _ _ h => h) (Or.inl ⟨by rfl, ?yda1⟩) hS ?_
  case yda1 => intro w hSw; go_simp
  simp only [Act.put, List.getElem_toArray, List.getElem_cons_succ, List.getElem_cons_zero, List.setIfInBounds_toArray, List.set_cons_zero, List.set_cons_succ]
  refine wpAnyL_ready (rs := [2]) (by kernel_rfl) (by simp) ?_
  refine AllReadyL.cons rfl (fun K hK => ?_) AllReadyL.nil
  rw [if_pos (by rfl)]
  simp only [List.getElem_toArray, List.getElem_cons_succ, List.getElem_cons_zero]
  go_wp2_with fail
  refine (l8Binds_is (w.heap.size + 1) a len cap (w.heap.size + 1) _ D4.out).mono ?_
  rintro e w4 ⟨bs, u, rfl, hbs, own5, d5, wr5⟩
  obtain ⟨ua, uc, rfl⟩ := ownShape own5
  have P5 := Lib.hid hbs
  have O5 := Lib.hid own5
  have hz5 := wr5.size
  have R5 := Lib.hid (heap_w8 R3.out wr5 (by omega))
  have O6 := Lib.hid (own_w8 O4.out wr5 (by omega))
  have B5 := Lib.hid (B3.out.trans (wr5.lowto (by omega) (by have := B3.out.size; omega)))
  have hw5 := wr5
  go_wp2_with fail
  have hS2 := heap_w8 hS hw5 (by omega)
  refine hK.out _ _ (fun _ => hS2) ?_
  clear hS hK
  have hS := hS2
  clear hS2
  clear hbs own5 d5 wr5 hw5 R3 O4 B3 D4
  refine wpAnyL_ready (rs := [3]) (by kernel_rfl) (by simp) ?_
  refine AllReadyL.cons rfl (fun K hK => ?_) AllReadyL.nil
  rw [if_pos (by rfl)]
  simp only [List.getElem_toArray, List.getElem_cons_succ, List.getElem_cons_zero]
  obtain ⟨⟨e0, e1⟩, k0, k1⟩ := blk2 R5.out
  go_wp2_with fail
  have gS := two_set w4 w.heap.size (.int .i64 c) (.slice va ts.length vc)
  have hh := two_at (u := .int .i64 c) (v := .slice va ts.length vc) R5.out
  have hS2 := heap_g8 hS gS (fun e => by injection e with e; omega)
  refine hK.out _ _ (fun _ => hS2) ?_
  clear hS hK
  have hS := hS2
  clear hS2
  obtain ⟨w6, W6⟩ : ∃ w6, Hid (w6 = (w4.setCell ⟨w.heap.size, 0, Option.none⟩ (.int .i64 c)).setCell ⟨w.heap.size, 1, Option.none⟩ (.slice va ts.length vc)) := ⟨_, rfl⟩
  rw [← W6.out] at gS hh hS ⊢
  obtain ⟨⟨x0, x1⟩, _⟩ := blk2 hh
  have O9 := Lib.hid (own_g8 O6.out gS (fun k h1 h2 => by have := (O6.out.lt k h1).1; injection h2 with h2; omega))
  have O10 := Lib.hid (own_g8 O5.out gS (fun k h1 h2 => by have := (O5.out.lt k h1).1; injection h2 with h2; omega))
  have B9 := Lib.hid (low_g8 B5.out gS (Nat.le_refl _) (fun k h => by injection h with h; omega))
  clear gS hh W6 e0 e1 k0 k1 R5 O5 O6 B5
  refine wpAnyL_ready (rs := [4]) (by kernel_rfl) (by simp) ?_
  refine AllReadyL.cons rfl (fun K hK => ?_) AllReadyL.nil
  rw [if_pos (by rfl)]
  simp only [List.getElem_toArray, List.getElem_cons_succ, List.getElem_cons_zero]
  go_wp2_with fail
  refine hK.out _ _ (fun e => absurd rfl e) ?_
  clear hK
  refine wpAnyL_done (by kernel_rfl) ?_ _
  clear hS
  go_wp2
  refine bodyPost_ret (v := .tuple #[.agg #[.int .i64 c, .slice va ts.length vc], .slice ua bs.length uc]) (by simp [results, Try.results19, go_sem, x0, x1]) rfl ⟨c, ts, bs, _, _, rfl, P2.out, P5.out, ownMono8 (by omega) O9.out, ownMono8 (by omega) O10.out, B9.out⟩
/-- A sum and a name were drawn. -/
def DrawnN8 (p : Int → List AR → Prop) (w : World) (e : Ending) (w' : World) : Prop := ∃ (c : Int) (ts : List AR) (v : Value) (s : ByteArray), e = .returned (.tuple #[.agg #[.int .i64 c, v], .string s]) ∧ p c ts ∧ s.size ≤ 3 ∧ w'.ownsRow w.heap.size 59 2 v ts.length (acells ts) ∧ Below w.heap.size w w'
set_option maxHeartbeats 4000000 in
set_option maxRecDepth 100000 in
theorem DrawCoefOf_is (a : Option Addr) (len cap : Nat) (w : World) (hlen : len ≤ 281474976710656) (hC : CodeIs w.heap.size w a len) : Calls Try.prog 20 #[.slice a len cap] w (DrawnN8 Any8 w) := by
  have HC := Lib.hid hC
  clear hC
  have b0 := alloc_below w (.cells #[.int .i64 0, .slice Option.none 0 0] 26)
  have hs0 : (w.alloc (.cells #[.int .i64 0, .slice Option.none 0 0] 26)).heap.size = w.heap.size + 1 := by simp
  have R0 := Lib.hid (heap_last w (.cells #[.int .i64 0, .slice Option.none 0 0] 26))
  have C1 := Lib.hid ((HC.out.later b0).mono (show w.heap.size ≤ w.heap.size + 1 by omega))
  have B0 := Lib.hid b0
  clear b0
  go_enter Try.func20, Try.ntmps20
  go_wp2_with fail
  refine (l1New (w.heap.size + 1) a len cap _ hlen C1.out).mono ?_
  rintro e w1 ⟨rfl, hcur, hb1⟩
  rw [hs0] at hcur hb1 ⊢
  have D1 : Hid (Dw (w.heap.size + 1) a len cap (w.heap.size + 1) w1) := ⟨hlen, Nat.le_refl _, C1.out.later hb1, hcur⟩
  have R1 := Lib.hid (heap_n8 R0.out hb1 (by omega))
  have B1 := Lib.hid (B0.out.trans (hb1.mono (by omega)))
  have hz1 : w.heap.size + 1 + 1 ≤ w1.heap.size := D1.out.cur.lt
  clear hcur hb1 R0 B0 C1 HC hs0
  go_wp2_with fail
  refine (l8Any_is (w.heap.size + 1) a len cap (w.heap.size + 1) _ D1.out).mono ?_
  rintro e w3 ⟨c, ts, v, rfl, hp3, own3, d3, wr3⟩
  obtain ⟨va, vc, rfl⟩ := ownShape own3
  have P3 := Lib.hid hp3
  have hz3 := wr3.size
  have ba := alloc_below w3 (.cells #[.string ⟨#[105]⟩, .string ⟨#[106]⟩, .string ⟨#[107]⟩, .string ⟨#[122]⟩] 9)
  have O3 := Lib.hid (own_below8 own3 ba)
  have D3 := Lib.hid (d3.later ba)
  have R3 := Lib.hid (heap_b8 (heap_w8 R1.out wr3 (by omega)) ba)
  have B3 := Lib.hid ((B1.out.trans (wr3.lowto (by omega) (by have := B1.out.size; omega))).trans (ba.mono (by omega)))
  clear hp3 own3 d3 wr3 ba R1 B1 D1
  go_wp2_with fail
  refine (l1Str_is (w.heap.size + 1) a len cap (w.heap.size + 1) w3.heap.size 4 4 (fun z => z.size ≤ 3) _ D3.out (by omega) (by omega) (by omega) (fun j hj => strs_cell w3 [⟨#[105]⟩, ⟨#[106]⟩, ⟨#[107]⟩, ⟨#[122]⟩] _ (by decide) _ rfl j hj)).mono ?_
  rintro e w6 ⟨ss, rfl, hss, d6, wr6⟩
  have HSS := Lib.hid hss
  have hz6 := wr6.size
  have r6 := heap_w8 R3.out wr6 (by omega)
  have R6 := Lib.hid r6
  have O6 := Lib.hid (own_w8 O3.out wr6 (by omega))
  have B6 := Lib.hid (B3.out.trans (wr6.lowto (by omega) B3.out.size))
  obtain ⟨⟨e0, e1⟩, k0, k1⟩ := blk2 r6
  clear hss d6 wr6 r6 R3 O3 B3 D3
  go_wp2
  have h1 := two_at (u := .int .i64 c) (v := .slice va ts.length vc) R6.out
  obtain ⟨⟨z0, z1⟩, _⟩ := blk2 h1
  have gS := two_set w6 w.heap.size (.int .i64 c) (.slice va ts.length vc)
  refine bodyPost_ret (v := .tuple #[.agg #[.int .i64 c, .slice va ts.length vc], .string ss]) (by simp [results, Try.results20, go_sem, z0, z1]) rfl ⟨c, ts, _, ss, rfl, P3.out, HSS.out, ownMono8 (by omega) (own_g8 O6.out gS (fun k h1 h2 => by have := (O6.out.lt k h1).1; injection h2 with h2; omega)), low_g8 B6.out gS (Nat.le_refl _) (fun k h => by injection h with h; omega)⟩
end Go.Proofs.Ytfacenfiocdbgaa
