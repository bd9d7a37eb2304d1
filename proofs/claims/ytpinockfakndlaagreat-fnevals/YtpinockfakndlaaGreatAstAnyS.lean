import Derived.Test.YtpinockfakndlaaGreatZp
import Derived.Test.YtpinockfakndlaaGreatP07ofFnEvals
namespace Go.Proofs.YtpinockfakndlaaGreat
open Go.RowKit Go.Lib
set_option linter.unusedSimpArgs false
set_option linter.unusedVariables false
def DrawnT (B : Nat) (a : Option Addr) (len cap b lim : Nat) (w : World) (e : Ending) (w' : World) : Prop :=
  ∃ (h : SH) (l : SF) (v1 v2 v3 v4 v : Value), e = .returned (.agg (scells h v1 v2 v3 v4 v).toArray) ∧ HV w' w.heap.size h v1 v2 v3 v4 ∧ SV w' w.heap.size l v ∧ hsize h + ssize l ≤ lim ∧ Dw B a len cap b w' ∧ Wr b w w'
def limT : Nat := 2 * limS 2 + limA + 100
theorem okStr4 : ∀ z ∈ ([⟨#[]⟩, ⟨#[102, 111, 114]⟩, ⟨#[120]⟩, ⟨#[65]⟩] : List ByteArray), z.size ≤ 3 := by decide
theorem hs_sz (h : SH) (s : ByteArray) (hs : s.size ≤ 3) : hsize { h with s := s } ≤ hsize h + 3 := by simp only [hsize]; omega
theorem hs_k (h : SH) (k : Int) : hsize { h with k := k } ≤ hsize h := Nat.le_refl _
def wrapH : SH := ⟨3, ⟨#[113]⟩, zeroX, zeroX, ⟨⟨1, 0, ⟨#[]⟩⟩, .nil⟩, ⟨⟨1, 1, ⟨#[]⟩⟩, .nil⟩⟩
theorem wrapH_size : hsize wrapH = 1 := by rfl
theorem limS2 : limS 2 = 706 := by rfl
set_option maxHeartbeats 4000000 in
set_option maxRecDepth 100000 in
theorem l3AnyStmt_is (B : Nat) (a : Option Addr) (len cap b : Nat) (w : World) (hdw : Dw B a len cap b w) : Calls Tryz.prog 60 #[.pointer (some ⟨b, 0, none⟩)] w (DrawnT B a len cap b limT w) := by
  obtain ⟨i0, hi, hz0, hz1, hz2⟩ := info_parts infoIS2
  have HI := hid (And.intro hi (And.intro hz0 (And.intro hz1 hz2)))
  clear hi hz0 hz1 hz2
  have HD := hid hdw
  have hbN := hdw.cur.lt
  clear hdw
  go_enter Tryz.func60, Tryz.ntmps60
  go_wp2_with fail
  have b0 := aB w (.cells zero19 98)
  have th0 := newthere w 98
  refine (l3DrawStmt_all B a len cap b 2 (by omega) _ (HD.out.later b0)).mono ?_
  rintro e w1 ⟨h0, l0, v1, v2, v3, v4, v, hret, e1, e2, hsz, d1, wr1, x1, o1⟩
  obtain rfl : e = .returned (sagg h0 v1 v2 v3 v4 v) := hret
  have hsz0 : (w.alloc (.cells zero19 98)).heap.size = w.heap.size + 1 := by simp
  rw [hsz0] at e1 e2 x1 o1
  have Q1 := hid (And.intro x1 o1)
  have HS0 := hid hsz
  have D1 := hid (And.intro d1 (And.intro ((Wr.of_below b0).trans wr1) (And.intro (there_wr th0 wr1 (by omega)) (And.intro e1 e2))))
  have i1 := e1.e1.isOne
  have i2 := e1.e2.isOne
  have i3 := e1.e3.isOne
  have i4 := e1.e4.isOne
  have i5 := e2.isOne
  clear d1 wr1 b0 th0 HD x1 o1 hsz hsz0 e1 e2
  go_wp2_with (refine sA rfl 98 _ _ rfl _ _ _ rfl rfl ?hta sizeIS ?hoa ?_; exact (newthere w1 _); exact (oneS h0 v1 v2 v3 v4 v i1 i2 i3 i4 i5); intro W hW; have V := hid (VarS.start2 rfl hbN D1.out.1 D1.out.2.1 D1.out.2.2.1 D1.out.2.2.2.1 D1.out.2.2.2.2 hW); clear hW)
  have WR1 : Hid (Wr b w1 W) := hid (.of_below V.out.2)
  replace V := hid V.out.1
  obtain ⟨n, hn⟩ : ∃ n, w1.heap.size = n := ⟨_, rfl⟩
  rw [hn] at V ⊢
  clear D1 i1 i2 i3 i4 i5
  go_wp2_with fail
  refine (l1Below_is B a len cap b 12 _ V.out.dw (by omega)).mono ?_
  rintro e w2 ⟨y, rfl, ⟨y0, y1⟩, d2, wr2⟩
  have V0 := hid (V.out.step wr2 d2)
  have WR2 := hid (WR1.out.trans wr2)
  clear d2 wr2 V WR1
  obtain rfl | rfl | rfl | rfl | rfl | rfl | rfl | hy7 : y = 0 ∨ y = 1 ∨ y = 2 ∨ y = 3 ∨ y = 4 ∨ y = 5 ∨ y = 6 ∨ 7 ≤ y := by omega
  · go_wp2_with fail
    refine (l1Below_is B a len cap b 6 _ V0.out.dw (by omega)).mono ?_
    rintro e w3 ⟨z, rfl, ⟨z0, z1⟩, d3, wr3⟩
    have T := hid (V0.out.step wr3 d3)
    obtain ⟨⟨c0, f0⟩, _⟩ := T.out.free
    obtain ⟨h3, hz3, V3⟩ : ∃ h3 : SH, hsize h3 ≤ hsize h0 ∧ Hid (VarS B a len cap b w w.heap.size n h3 l0 v1 v2 v3 v4 v (w3.setCell ⟨n, 0, Option.none⟩ (.int .i64 z))) := ⟨_, hs_k h0 z, hid (T.out.setK z)⟩
    clear T V0 d3 wr3
    go_wp2_with (first | (refine wpList_load_mid rfl 98 _ rfl n 0 rfl _ _ V3.out.rg Tryz.underlying98 rfl sizeIS ?_) | (refine sA rfl 98 _ _ rfl _ _ _ rfl rfl ?htea sizeIS ?hoea ?_; exact V3.out.thN; exact (oneS h3 v1 v2 v3 v4 v V3.out.ex.e1.ev.isOne V3.out.ex.e2.ev.isOne V3.out.ex.e3.ev.isOne V3.out.ex.e4.ev.isOne V3.out.sx.sv.isOne); intro WE hW; have HC := hid (V3.out.close hW); clear hW))
    obtain ⟨rg, q1, q2, q3, q4⟩ := HC.out
    have hlv := run_loadVar_mid WE w.heap.size 0 _ _ _ rg Tryz.underlying98 rfl sizeIS
    refine bodyPost_ret (v := .agg (scells h3 v1 v2 v3 v4 v).toArray) ?_ rfl ⟨h3, l0, v1, v2, v3, v4, v, rfl, q1, q2, (by have := HS0.out; have := limS2; unfold limT; omega), q3, q4⟩
    simp [results, Tryz.results60, asAddr, hlv, Act.put]
    try rfl
  · have b1 := aB w2 (.cells (([⟨#[]⟩, ⟨#[102, 111, 114]⟩, ⟨#[120]⟩, ⟨#[65]⟩] : List ByteArray).map Value.string).toArray 9)
    have U := hid (V0.out.later b1)
    go_wp2_with fail
    refine (l1Str_is B a len cap b w2.heap.size 4 4 (fun z => z.size ≤ 3) _ U.out.dw (by omega) (by omega) (by have := V0.out.lt; have := V0.out.hn; have := V0.out.hb; omega) (fun j hj => strs_cell _ _ _ okStr4 _ rfl j hj)).mono ?_
    rintro e w3 ⟨z, rfl, hq, d3, wr3⟩
    have T := hid (U.out.step wr3 d3)
    obtain ⟨_, ⟨c1, f1⟩, _⟩ := T.out.free
    obtain ⟨h3, hz3, V3⟩ : ∃ h3 : SH, hsize h3 ≤ hsize h0 + 3 ∧ Hid (VarS B a len cap b w w.heap.size n h3 l0 v1 v2 v3 v4 v (w3.setCell ⟨n, 1, Option.none⟩ (.string z))) := ⟨_, hs_sz h0 z hq, hid (T.out.setS z)⟩
    clear T V0 U b1 d3 wr3 hq
    go_wp2_with (first | (refine wpList_load_mid rfl 98 _ rfl n 0 rfl _ _ V3.out.rg Tryz.underlying98 rfl sizeIS ?_) | (refine sA rfl 98 _ _ rfl _ _ _ rfl rfl ?hteb sizeIS ?hoeb ?_; exact V3.out.thN; exact (oneS h3 v1 v2 v3 v4 v V3.out.ex.e1.ev.isOne V3.out.ex.e2.ev.isOne V3.out.ex.e3.ev.isOne V3.out.ex.e4.ev.isOne V3.out.sx.sv.isOne); intro WE hW; have HC := hid (V3.out.close hW); clear hW))
    obtain ⟨rg, q1, q2, q3, q4⟩ := HC.out
    have hlv := run_loadVar_mid WE w.heap.size 0 _ _ _ rg Tryz.underlying98 rfl sizeIS
    refine bodyPost_ret (v := .agg (scells h3 v1 v2 v3 v4 v).toArray) ?_ rfl ⟨h3, l0, v1, v2, v3, v4, v, rfl, q1, q2, (by have := HS0.out; have := limS2; unfold limT; omega), q3, q4⟩
    simp [results, Tryz.results60, asAddr, hlv, Act.put]
    try rfl
  · go_wp2_with fail
    refine (l3Any_is B a len cap b _ V0.out.dw).mono ?_
    rintro e w3 ⟨x3, u3, rfl, g3, s3, d3, wr3⟩
    have T := hid (V0.out.step wr3 d3)
    have G := hid (V0.out.evx g3)
    have i3 := g3.isOne
    clear V0 d3 wr3 g3
    go_wp2_with (first | (refine sA rfl 43 _ _ rfl _ _ _ rfl rfl ?htc sizeIE2 ?hoc ?_; exact (T.out.part 2 (by omega)); exact (oneX x3 u3 i3); intro W3 hW; have V3 : Hid (VarS B a len cap b w w.heap.size n { h0 with x1 := x3 } l0 u3 v2 v3 v4 v W3) := hid (by rw [← hW]; exact T.out.set1 G.out); clear hW) | (refine wpList_load_mid rfl 98 _ rfl n 0 rfl _ _ V3.out.rg Tryz.underlying98 rfl sizeIS ?_) | (refine sA rfl 98 _ _ rfl _ _ _ rfl rfl ?htecz sizeIS ?hoecz ?_; exact V3.out.thN; exact (oneS { h0 with x1 := x3 } u3 v2 v3 v4 v V3.out.ex.e1.ev.isOne V3.out.ex.e2.ev.isOne V3.out.ex.e3.ev.isOne V3.out.ex.e4.ev.isOne V3.out.sx.sv.isOne); intro WE hW; have HC := hid (V3.out.close hW); clear hW))
    have hz3 := hs_1 h0 x3
    obtain ⟨h3, hh3⟩ : ∃ h3 : SH, h3 = { h0 with x1 := x3 } := ⟨_, rfl⟩
    rw [← hh3] at hz3 HC
    obtain ⟨rg, q1, q2, q3, q4⟩ := HC.out
    have hlv := run_loadVar_mid WE w.heap.size 0 _ _ _ rg Tryz.underlying98 rfl sizeIS
    refine bodyPost_ret (v := .agg (scells h3 u3 v2 v3 v4 v).toArray) ?_ rfl ⟨h3, l0, u3, v2, v3, v4, v, rfl, q1, q2, (by have := HS0.out; have := limS2; unfold limT; omega), q3, q4⟩
    simp [results, Tryz.results60, asAddr, hlv, Act.put]
    try rfl
  · go_wp2_with fail
    refine (l3Any_is B a len cap b _ V0.out.dw).mono ?_
    rintro e w3 ⟨x3, u3, rfl, g3, s3, d3, wr3⟩
    have T := hid (V0.out.step wr3 d3)
    have G := hid (V0.out.evx g3)
    have i3 := g3.isOne
    clear V0 d3 wr3 g3
    go_wp2_with (first | (refine sA rfl 43 _ _ rfl _ _ _ rfl rfl ?htd sizeIE2 ?hod ?_; exact (T.out.part 6 (by omega)); exact (oneX x3 u3 i3); intro W3 hW; have V3 : Hid (VarS B a len cap b w w.heap.size n { h0 with x2 := x3 } l0 v1 u3 v3 v4 v W3) := hid (by rw [← hW]; exact T.out.set2 G.out); clear hW) | (refine wpList_load_mid rfl 98 _ rfl n 0 rfl _ _ V3.out.rg Tryz.underlying98 rfl sizeIS ?_) | (refine sA rfl 98 _ _ rfl _ _ _ rfl rfl ?htedz sizeIS ?hoedz ?_; exact V3.out.thN; exact (oneS { h0 with x2 := x3 } v1 u3 v3 v4 v V3.out.ex.e1.ev.isOne V3.out.ex.e2.ev.isOne V3.out.ex.e3.ev.isOne V3.out.ex.e4.ev.isOne V3.out.sx.sv.isOne); intro WE hW; have HC := hid (V3.out.close hW); clear hW))
    have hz3 := hs_2 h0 x3
    obtain ⟨h3, hh3⟩ : ∃ h3 : SH, h3 = { h0 with x2 := x3 } := ⟨_, rfl⟩
    rw [← hh3] at hz3 HC
    obtain ⟨rg, q1, q2, q3, q4⟩ := HC.out
    have hlv := run_loadVar_mid WE w.heap.size 0 _ _ _ rg Tryz.underlying98 rfl sizeIS
    refine bodyPost_ret (v := .agg (scells h3 v1 u3 v3 v4 v).toArray) ?_ rfl ⟨h3, l0, v1, u3, v3, v4, v, rfl, q1, q2, (by have := HS0.out; have := limS2; unfold limT; omega), q3, q4⟩
    simp [results, Tryz.results60, asAddr, hlv, Act.put]
    try rfl
  · go_wp2_with fail
    refine (l3Any_is B a len cap b _ V0.out.dw).mono ?_
    rintro e w3 ⟨x3, u3, rfl, g3, s3, d3, wr3⟩
    have T := hid (V0.out.step wr3 d3)
    have G := hid (V0.out.evx g3)
    have i3 := g3.isOne
    clear V0 d3 wr3 g3
    go_wp2_with (first | (refine sA rfl 43 _ _ rfl _ _ _ rfl rfl ?hte sizeIE2 ?hoe ?_; exact (T.out.part 10 (by omega)); exact (oneX x3 u3 i3); intro W3 hW; have V3 : Hid (VarS B a len cap b w w.heap.size n { h0 with x3 := x3 } l0 v1 v2 u3 v4 v W3) := hid (by rw [← hW]; exact T.out.set3 G.out); clear hW) | (refine wpList_load_mid rfl 98 _ rfl n 0 rfl _ _ V3.out.rg Tryz.underlying98 rfl sizeIS ?_) | (refine sA rfl 98 _ _ rfl _ _ _ rfl rfl ?hteez sizeIS ?hoeez ?_; exact V3.out.thN; exact (oneS { h0 with x3 := x3 } v1 v2 u3 v4 v V3.out.ex.e1.ev.isOne V3.out.ex.e2.ev.isOne V3.out.ex.e3.ev.isOne V3.out.ex.e4.ev.isOne V3.out.sx.sv.isOne); intro WE hW; have HC := hid (V3.out.close hW); clear hW))
    have hz3 := hs_3 h0 x3
    obtain ⟨h3, hh3⟩ : ∃ h3 : SH, h3 = { h0 with x3 := x3 } := ⟨_, rfl⟩
    rw [← hh3] at hz3 HC
    obtain ⟨rg, q1, q2, q3, q4⟩ := HC.out
    have hlv := run_loadVar_mid WE w.heap.size 0 _ _ _ rg Tryz.underlying98 rfl sizeIS
    refine bodyPost_ret (v := .agg (scells h3 v1 v2 u3 v4 v).toArray) ?_ rfl ⟨h3, l0, v1, v2, u3, v4, v, rfl, q1, q2, (by have := HS0.out; have := limS2; unfold limT; omega), q3, q4⟩
    simp [results, Tryz.results60, asAddr, hlv, Act.put]
    try rfl
  · obtain ⟨x1, xs, own1, row1⟩ := Q1.out
    have hsl : slen l0 ≤ 706 := by have := HS0.out; have := limS2; have := ssize_bulk l0; omega
    obtain ⟨va, vc, rfl⟩ := V0.out.sx.sv.shape
    have Q := hid (And.intro x1 (And.intro own1 row1))
    clear x1 own1 row1 Q1
    go_wp2_with fail
    have bd : Below w2.heap.size w2 w2.drew := (Below.refl _ w2).drew
    have Vd := hid (V0.out.later bd)
    have WRd := hid (WR2.out.trans (.of_below bd))
    have hnd : n < w2.drew.heap.size := Vd.out.lt
    clear bd V0 WR2
    refine wp_region_any (by kernel_rfl) ?_
    refine wpAny_take (i := 0) (v := .pointer (some ⟨n, 18, Option.none⟩)) rfl (by kernel_rfl) (by kernel_rfl) (by kernel_rfl) (fun _ _ _ => id) (Or.inl ⟨by rfl, ?yt0⟩) ?_
    case yt0 => intro w; go_simp
    simp only [Act.put, zp]
    refine wpAny_take (i := 2) (v := .pointer (some ⟨b, 0, Option.none⟩)) rfl (by kernel_rfl) (by kernel_rfl) (by kernel_rfl) (fun _ _ _ => id) (Or.inl ⟨by rfl, ?yt2⟩) ?_
    case yt2 => intro w; go_simp
    simp only [Act.put, zp]
    refine wpAny_ready (rs := [1, 3]) (by kernel_rfl) (by simp) ?_
    refine AllReady.cons rfl (fun K hK => ?_) (AllReady.cons rfl (fun K hK => ?_) AllReady.nil)
    · rw [if_pos (by rfl)]
      simp only [zq]
      obtain ⟨_, _, c18, f18⟩ := Vd.out.free
      have HK := hid hK
      clear hK
      go_wp2_with fail
      refine HK.out _ _ ?_
      clear HK c18 f18
      try simp only [Act.put, zp]
      refine wpAny_ready (rs := [3]) (by kernel_rfl) (by simp) ?_
      refine AllReady.cons rfl (fun K hK => ?_) AllReady.nil
      rw [if_pos (by rfl)]
      simp only [zq]
      have HK := hid hK
      clear hK
      go_wp2_with fail
      refine (l3DrawStmt_all B a len cap b 2 (by omega) _ Vd.out.dw).mono ?_
      rintro e w3 ⟨h3, l3, u1, u2, u3, u4, u, hret, g1, g2, s3, d3, wr3, _⟩
      obtain ⟨ua, uc, rfl⟩ := g2.shape
      obtain ⟨a1, c1, rfl⟩ := g1.e1.shape
      obtain ⟨a2, c2, rfl⟩ := g1.e2.shape
      obtain ⟨a3, c3, rfl⟩ := g1.e3.shape
      obtain ⟨a4, c4, rfl⟩ := g1.e4.shape
      obtain rfl : e = .returned (sagg h3 (.slice a1 (elen h3.x1.l) c1) (.slice a2 (elen h3.x2.l) c2) (.slice a3 (elen h3.x3.l) c3) (.slice a4 (elen h3.x4.l) c4) (.slice ua (slen l3) uc)) := hret
      have V3 := hid (Vd.out.step wr3 d3)
      have WR3 := hid (WRd.out.trans wr3)
      have HE := hid (And.intro g1 g2)
      have hw3 := wr3.size
      clear g1 g2 d3 wr3
      go_wp2_with fail
      refine HK.out _ _ ?_
      clear HK
      try simp only [Act.put, zp]
      refine wpAny_ready (rs := [4]) (by kernel_rfl) (by simp) ?_
      refine AllReady.cons rfl (fun K hK => ?_) AllReady.nil
      rw [if_pos (by rfl)]
      simp only [zq]
      have HK := hid hK
      clear hK
      go_wp2_with fail
      refine HK.out _ _ ?_
      clear HK
      try simp only [Act.put, zp]
      have V4 := hid (V3.out.later (aB w3 (.cells (#[.int .i64 h3.k, .string h3.s, .int .i64 h3.x1.h.k, .int .i64 h3.x1.h.n, .string h3.x1.h.s, (.slice a1 (elen h3.x1.l) c1), .int .i64 h3.x2.h.k, .int .i64 h3.x2.h.n, .string h3.x2.h.s, (.slice a2 (elen h3.x2.l) c2), .int .i64 h3.x3.h.k, .int .i64 h3.x3.h.n, .string h3.x3.h.s, (.slice a3 (elen h3.x3.l) c3), .int .i64 h3.x4.h.k, .int .i64 h3.x4.h.n, .string h3.x4.h.s, (.slice a4 (elen h3.x4.l) c4), (.slice ua (slen l3) uc)]) 98)))
      refine wpAny_ready (rs := [5]) (by kernel_rfl) (by simp) ?_
      refine AllReady.cons rfl (fun K hK => ?_) AllReady.nil
      rw [if_pos (by rfl)]
      simp only [zq]
      refine wp_append_lies _ _ _ 25 (by rfl) (w.heap.size + 1) 98 i0 _ 19 272 Tryz.underlying25 HI.out.1 HI.out.2.1 HI.out.2.2.1 HI.out.2.2.2 rfl (by decide) _ _ _ (by rfl) ((own_wr Q.out.2.1 WR3.out (by omega)).alloc _) ⟨w3.heap.size, 0, Option.none⟩ 1 1 (scells h3 (.slice a1 (elen h3.x1.l) c1) (.slice a2 (elen h3.x2.l) c2) (.slice a3 (elen h3.x3.l) c3) (.slice a4 (elen h3.x4.l) c4) (.slice ua (slen l3) uc)) (by rfl) (by rfl) ?c11 ?c21 (by decide) ?c31 ?c41 ?c51 (w3.heap.size + 1) (by simp) ?_
      case c11 => exact newsN _ _ _
      case c21 => exact ones19 HE.out.1 HE.out.2
      case c31 => unfold maxLen; omega
      case c41 => omega
      case c51 => have := V3.out.lt; have := V3.out.hn; simp; omega
      intro g c6 w6 hown6 hgrow6 hat6 hlt6
      obtain ⟨c18, f18⟩ := V3.out.more18 hn Q.out.2.1 hgrow6
      have V7 := hid (V3.out.more (p := 0) (q := 0) hn Q.out.1 Q.out.2.1 Q.out.2.2 (fun a z h1 hc => WR3.out.keeps a z (by omega) hc) HE.out.1 HE.out.2 hnd hown6 hgrow6 (by rcases hat6 with e | e; exact .inl e; exact .inr (by omega)))
      refine hK _ _ ?_
      clear hK hown6 hgrow6 hat6 hlt6
      try simp only [Act.put, zp]
      refine wpAny_ready (rs := [6]) (by kernel_rfl) (by simp) ?_
      refine AllReady.cons rfl (fun K hK => ?_) AllReady.nil
      rw [if_pos (by rfl)]
      simp only [zq]
      have HK := hid hK
      clear hK
      go_wp2_with fail
      refine HK.out _ _ ?_
      clear HK
      try simp only [Act.put, zp]
      refine wpAny_ready (rs := [7]) (by kernel_rfl) (by simp) ?_
      refine AllReady.cons rfl (fun K hK => ?_) AllReady.nil
      rw [if_pos (by rfl)]
      simp only [zq]
      have HK := hid hK
      clear hK
      go_wp2_with fail
      refine HK.out _ _ ?_
      clear HK c18 f18
      try simp only [Act.put, zp]
      refine wpAny_done (by kernel_rfl) ?_ _
      go_wp2_with (first | (refine wpList_load_mid rfl 98 _ rfl n 0 rfl _ _ V7.out.rg Tryz.underlying98 rfl sizeIS ?_) | (refine sA rfl 98 _ _ rfl _ _ _ rfl rfl ?hter2 sizeIS ?hoer2 ?_; exact V7.out.thN; exact (oneS h0 v1 v2 v3 v4 (.slice (some ⟨g, 0, Option.none⟩) (slen l0 + 1) c6) V7.out.ex.e1.ev.isOne V7.out.ex.e2.ev.isOne V7.out.ex.e3.ev.isOne V7.out.ex.e4.ev.isOne V7.out.sx.sv.isOne); intro WE hW; have HC := hid (V7.out.close hW); clear hW))
      obtain ⟨rg, q1, q2, q3, q4⟩ := HC.out
      have hlv := run_loadVar_mid WE w.heap.size 0 _ _ _ rg Tryz.underlying98 rfl sizeIS
      refine bodyPost_ret (v := .agg (scells h0 v1 v2 v3 v4 (.slice (some ⟨g, 0, Option.none⟩) (slen l0 + 1) c6)).toArray) ?_ rfl ⟨h0, (sapp l0 (.node 0 0 h3 l3 .nil)), v1, v2, v3, v4, (.slice (some ⟨g, 0, Option.none⟩) (slen l0 + 1) c6), rfl, q1, q2, (by rw [ssize_app]; simp only [ssize]; have := HS0.out; have := s3; unfold limT; omega), q3, q4⟩
      simp [results, Tryz.results60, asAddr, hlv, Act.put]
      try rfl
    · rw [if_pos (by rfl)]
      simp only [zq]
      have HK := hid hK
      clear hK
      go_wp2_with fail
      refine (l3DrawStmt_all B a len cap b 2 (by omega) _ Vd.out.dw).mono ?_
      rintro e w3 ⟨h3, l3, u1, u2, u3, u4, u, hret, g1, g2, s3, d3, wr3, _⟩
      obtain ⟨ua, uc, rfl⟩ := g2.shape
      obtain ⟨a1, c1, rfl⟩ := g1.e1.shape
      obtain ⟨a2, c2, rfl⟩ := g1.e2.shape
      obtain ⟨a3, c3, rfl⟩ := g1.e3.shape
      obtain ⟨a4, c4, rfl⟩ := g1.e4.shape
      obtain rfl : e = .returned (sagg h3 (.slice a1 (elen h3.x1.l) c1) (.slice a2 (elen h3.x2.l) c2) (.slice a3 (elen h3.x3.l) c3) (.slice a4 (elen h3.x4.l) c4) (.slice ua (slen l3) uc)) := hret
      have V3 := hid (Vd.out.step wr3 d3)
      have WR3 := hid (WRd.out.trans wr3)
      have HE := hid (And.intro g1 g2)
      have hw3 := wr3.size
      clear g1 g2 d3 wr3
      go_wp2_with fail
      refine HK.out _ _ ?_
      clear HK
      try simp only [Act.put, zp]
      refine wpAny_ready (rs := [1, 4]) (by kernel_rfl) (by simp) ?_
      refine AllReady.cons rfl (fun K hK => ?_) (AllReady.cons rfl (fun K hK => ?_) AllReady.nil)
      · rw [if_pos (by rfl)]
        simp only [zq]
        obtain ⟨_, _, c18, f18⟩ := V3.out.free
        have HK := hid hK
        clear hK
        go_wp2_with fail
        refine HK.out _ _ ?_
        clear HK c18 f18
        try simp only [Act.put, zp]
        refine wpAny_ready (rs := [4]) (by kernel_rfl) (by simp) ?_
        refine AllReady.cons rfl (fun K hK => ?_) AllReady.nil
        rw [if_pos (by rfl)]
        simp only [zq]
        have HK := hid hK
        clear hK
        go_wp2_with fail
        refine HK.out _ _ ?_
        clear HK
        try simp only [Act.put, zp]
        have V4 := hid (V3.out.later (aB w3 (.cells (#[.int .i64 h3.k, .string h3.s, .int .i64 h3.x1.h.k, .int .i64 h3.x1.h.n, .string h3.x1.h.s, (.slice a1 (elen h3.x1.l) c1), .int .i64 h3.x2.h.k, .int .i64 h3.x2.h.n, .string h3.x2.h.s, (.slice a2 (elen h3.x2.l) c2), .int .i64 h3.x3.h.k, .int .i64 h3.x3.h.n, .string h3.x3.h.s, (.slice a3 (elen h3.x3.l) c3), .int .i64 h3.x4.h.k, .int .i64 h3.x4.h.n, .string h3.x4.h.s, (.slice a4 (elen h3.x4.l) c4), (.slice ua (slen l3) uc)]) 98)))
        refine wpAny_ready (rs := [5]) (by kernel_rfl) (by simp) ?_
        refine AllReady.cons rfl (fun K hK => ?_) AllReady.nil
        rw [if_pos (by rfl)]
        simp only [zq]
        refine wp_append_lies _ _ _ 25 (by rfl) (w.heap.size + 1) 98 i0 _ 19 272 Tryz.underlying25 HI.out.1 HI.out.2.1 HI.out.2.2.1 HI.out.2.2.2 rfl (by decide) _ _ _ (by rfl) ((own_wr Q.out.2.1 WR3.out (by omega)).alloc _) ⟨w3.heap.size, 0, Option.none⟩ 1 1 (scells h3 (.slice a1 (elen h3.x1.l) c1) (.slice a2 (elen h3.x2.l) c2) (.slice a3 (elen h3.x3.l) c3) (.slice a4 (elen h3.x4.l) c4) (.slice ua (slen l3) uc)) (by rfl) (by rfl) ?c13 ?c23 (by decide) ?c33 ?c43 ?c53 (w3.heap.size + 1) (by simp) ?_
        case c13 => exact newsN _ _ _
        case c23 => exact ones19 HE.out.1 HE.out.2
        case c33 => unfold maxLen; omega
        case c43 => omega
        case c53 => have := V3.out.lt; have := V3.out.hn; simp; omega
        intro g c6 w6 hown6 hgrow6 hat6 hlt6
        obtain ⟨c18, f18⟩ := V3.out.more18 hn Q.out.2.1 hgrow6
        have V7 := hid (V3.out.more (p := 0) (q := 0) hn Q.out.1 Q.out.2.1 Q.out.2.2 (fun a z h1 hc => WR3.out.keeps a z (by omega) hc) HE.out.1 HE.out.2 hnd hown6 hgrow6 (by rcases hat6 with e | e; exact .inl e; exact .inr (by omega)))
        refine hK _ _ ?_
        clear hK hown6 hgrow6 hat6 hlt6
        try simp only [Act.put, zp]
        refine wpAny_ready (rs := [6]) (by kernel_rfl) (by simp) ?_
        refine AllReady.cons rfl (fun K hK => ?_) AllReady.nil
        rw [if_pos (by rfl)]
        simp only [zq]
        have HK := hid hK
        clear hK
        go_wp2_with fail
        refine HK.out _ _ ?_
        clear HK
        try simp only [Act.put, zp]
        refine wpAny_ready (rs := [7]) (by kernel_rfl) (by simp) ?_
        refine AllReady.cons rfl (fun K hK => ?_) AllReady.nil
        rw [if_pos (by rfl)]
        simp only [zq]
        have HK := hid hK
        clear hK
        go_wp2_with fail
        refine HK.out _ _ ?_
        clear HK c18 f18
        try simp only [Act.put, zp]
        refine wpAny_done (by kernel_rfl) ?_ _
        go_wp2_with (first | (refine wpList_load_mid rfl 98 _ rfl n 0 rfl _ _ V7.out.rg Tryz.underlying98 rfl sizeIS ?_) | (refine sA rfl 98 _ _ rfl _ _ _ rfl rfl ?hter4 sizeIS ?hoer4 ?_; exact V7.out.thN; exact (oneS h0 v1 v2 v3 v4 (.slice (some ⟨g, 0, Option.none⟩) (slen l0 + 1) c6) V7.out.ex.e1.ev.isOne V7.out.ex.e2.ev.isOne V7.out.ex.e3.ev.isOne V7.out.ex.e4.ev.isOne V7.out.sx.sv.isOne); intro WE hW; have HC := hid (V7.out.close hW); clear hW))
        obtain ⟨rg, q1, q2, q3, q4⟩ := HC.out
        have hlv := run_loadVar_mid WE w.heap.size 0 _ _ _ rg Tryz.underlying98 rfl sizeIS
        refine bodyPost_ret (v := .agg (scells h0 v1 v2 v3 v4 (.slice (some ⟨g, 0, Option.none⟩) (slen l0 + 1) c6)).toArray) ?_ rfl ⟨h0, (sapp l0 (.node 0 0 h3 l3 .nil)), v1, v2, v3, v4, (.slice (some ⟨g, 0, Option.none⟩) (slen l0 + 1) c6), rfl, q1, q2, (by rw [ssize_app]; simp only [ssize]; have := HS0.out; have := s3; unfold limT; omega), q3, q4⟩
        simp [results, Tryz.results60, asAddr, hlv, Act.put]
        try rfl
      · rw [if_pos (by rfl)]
        simp only [zq]
        have HK := hid hK
        clear hK
        go_wp2_with fail
        refine HK.out _ _ ?_
        clear HK
        try simp only [Act.put, zp]
        have V4 := hid (V3.out.later (aB w3 (.cells (#[.int .i64 h3.k, .string h3.s, .int .i64 h3.x1.h.k, .int .i64 h3.x1.h.n, .string h3.x1.h.s, (.slice a1 (elen h3.x1.l) c1), .int .i64 h3.x2.h.k, .int .i64 h3.x2.h.n, .string h3.x2.h.s, (.slice a2 (elen h3.x2.l) c2), .int .i64 h3.x3.h.k, .int .i64 h3.x3.h.n, .string h3.x3.h.s, (.slice a3 (elen h3.x3.l) c3), .int .i64 h3.x4.h.k, .int .i64 h3.x4.h.n, .string h3.x4.h.s, (.slice a4 (elen h3.x4.l) c4), (.slice ua (slen l3) uc)]) 98)))
        refine wpAny_ready (rs := [1]) (by kernel_rfl) (by simp) ?_
        refine AllReady.cons rfl (fun K hK => ?_) AllReady.nil
        rw [if_pos (by rfl)]
        simp only [zq]
        obtain ⟨_, _, c18, f18⟩ := V4.out.free
        have HK := hid hK
        clear hK
        go_wp2_with fail
        refine HK.out _ _ ?_
        clear HK c18 f18
        try simp only [Act.put, zp]
        refine wpAny_ready (rs := [5]) (by kernel_rfl) (by simp) ?_
        refine AllReady.cons rfl (fun K hK => ?_) AllReady.nil
        rw [if_pos (by rfl)]
        simp only [zq]
        refine wp_append_lies _ _ _ 25 (by rfl) (w.heap.size + 1) 98 i0 _ 19 272 Tryz.underlying25 HI.out.1 HI.out.2.1 HI.out.2.2.1 HI.out.2.2.2 rfl (by decide) _ _ _ (by rfl) ((own_wr Q.out.2.1 WR3.out (by omega)).alloc _) ⟨w3.heap.size, 0, Option.none⟩ 1 1 (scells h3 (.slice a1 (elen h3.x1.l) c1) (.slice a2 (elen h3.x2.l) c2) (.slice a3 (elen h3.x3.l) c3) (.slice a4 (elen h3.x4.l) c4) (.slice ua (slen l3) uc)) (by rfl) (by rfl) ?c15 ?c25 (by decide) ?c35 ?c45 ?c55 (w3.heap.size + 1) (by simp) ?_
        case c15 => exact newsN _ _ _
        case c25 => exact ones19 HE.out.1 HE.out.2
        case c35 => unfold maxLen; omega
        case c45 => omega
        case c55 => have := V3.out.lt; have := V3.out.hn; simp; omega
        intro g c6 w6 hown6 hgrow6 hat6 hlt6
        obtain ⟨c18, f18⟩ := V3.out.more18 hn Q.out.2.1 hgrow6
        have V7 := hid (V3.out.more (p := 0) (q := 0) hn Q.out.1 Q.out.2.1 Q.out.2.2 (fun a z h1 hc => WR3.out.keeps a z (by omega) hc) HE.out.1 HE.out.2 hnd hown6 hgrow6 (by rcases hat6 with e | e; exact .inl e; exact .inr (by omega)))
        refine hK _ _ ?_
        clear hK hown6 hgrow6 hat6 hlt6
        try simp only [Act.put, zp]
        refine wpAny_ready (rs := [6]) (by kernel_rfl) (by simp) ?_
        refine AllReady.cons rfl (fun K hK => ?_) AllReady.nil
        rw [if_pos (by rfl)]
        simp only [zq]
        have HK := hid hK
        clear hK
        go_wp2_with fail
        refine HK.out _ _ ?_
        clear HK
        try simp only [Act.put, zp]
        refine wpAny_ready (rs := [7]) (by kernel_rfl) (by simp) ?_
        refine AllReady.cons rfl (fun K hK => ?_) AllReady.nil
        rw [if_pos (by rfl)]
        simp only [zq]
        have HK := hid hK
        clear hK
        go_wp2_with fail
        refine HK.out _ _ ?_
        clear HK c18 f18
        try simp only [Act.put, zp]
        refine wpAny_done (by kernel_rfl) ?_ _
        go_wp2_with (first | (refine wpList_load_mid rfl 98 _ rfl n 0 rfl _ _ V7.out.rg Tryz.underlying98 rfl sizeIS ?_) | (refine sA rfl 98 _ _ rfl _ _ _ rfl rfl ?hter6 sizeIS ?hoer6 ?_; exact V7.out.thN; exact (oneS h0 v1 v2 v3 v4 (.slice (some ⟨g, 0, Option.none⟩) (slen l0 + 1) c6) V7.out.ex.e1.ev.isOne V7.out.ex.e2.ev.isOne V7.out.ex.e3.ev.isOne V7.out.ex.e4.ev.isOne V7.out.sx.sv.isOne); intro WE hW; have HC := hid (V7.out.close hW); clear hW))
        obtain ⟨rg, q1, q2, q3, q4⟩ := HC.out
        have hlv := run_loadVar_mid WE w.heap.size 0 _ _ _ rg Tryz.underlying98 rfl sizeIS
        refine bodyPost_ret (v := .agg (scells h0 v1 v2 v3 v4 (.slice (some ⟨g, 0, Option.none⟩) (slen l0 + 1) c6)).toArray) ?_ rfl ⟨h0, (sapp l0 (.node 0 0 h3 l3 .nil)), v1, v2, v3, v4, (.slice (some ⟨g, 0, Option.none⟩) (slen l0 + 1) c6), rfl, q1, q2, (by rw [ssize_app]; simp only [ssize]; have := HS0.out; have := s3; unfold limT; omega), q3, q4⟩
        simp [results, Tryz.results60, asAddr, hlv, Act.put]
        try rfl
  · go_wp2_with fail
    refine (l1Below_is B a len cap b 4 _ V0.out.dw (by omega)).mono ?_
    rintro e w3 ⟨z, rfl, ⟨z0, z1⟩, d3, wr3⟩
    have V3 := hid (V0.out.step wr3 d3)
    clear d3 wr3 V0 Q1 WR2
    obtain ⟨m, hm⟩ : ∃ m : Nat, z = (m : Int) := ⟨z.toNat, by omega⟩
    subst hm
    go_wp2
    go_loopw [4] (fun i wr => ∃ (k : Nat) (h : SH) (l : SF) (p1 p2 p3 p4 p : Value), i = .int .i64 (k : Int) ∧ k ≤ 3 ∧ Hid (VarS B a len cap b w w.heap.size n h l p1 p2 p3 p4 p wr ∧ hsize h + ssize l + 2 * k ≤ limS 2 + 10)) (fun i _ => (RowKit.intOf i).toNat)
    case atStart => exact ⟨m, h0, l0, v1, v2, v3, v4, v, rfl, by omega, ⟨V3.out, by have := HS0.out; omega⟩⟩
    case round =>
      obtain ⟨k, h, l, p1, p2, p3, p4, pv, rfl, hk3, hV⟩ := hrel
      have HSZ := hid hV.out.2
      replace hV := hid hV.out.1
      clear V3 z0 z1
      by_cases hk : k = 0
      · have hk0 : ¬ (0 : Int) < (k : Int) := by omega
        clear hk
        go_wp2_with (first | (refine wpList_load_mid rfl 98 _ rfl n 0 rfl _ _ hV.out.rg Tryz.underlying98 rfl sizeIS ?_) | (refine sA rfl 98 _ _ rfl _ _ _ rfl rfl ?htelz sizeIS ?hoelz ?_; exact hV.out.thN; exact (oneS h p1 p2 p3 p4 pv hV.out.ex.e1.ev.isOne hV.out.ex.e2.ev.isOne hV.out.ex.e3.ev.isOne hV.out.ex.e4.ev.isOne hV.out.sx.sv.isOne); intro WE hW; have HC := hid (hV.out.close hW); clear hW))
        obtain ⟨rg, q1, q2, q3, q4⟩ := HC.out
        have hlv := run_loadVar_mid WE w.heap.size 0 _ _ _ rg Tryz.underlying98 rfl sizeIS
        refine bodyPost_ret (v := .agg (scells h p1 p2 p3 p4 pv).toArray) ?_ rfl ⟨h, l, p1, p2, p3, p4, pv, rfl, q1, q2, (by have := HSZ.out; unfold limT; omega), q3, q4⟩
        simp [results, Tryz.results60, asAddr, hlv, Act.put]
        try rfl
      · have hk0 : (0 : Int) < (k : Int) := by omega
        clear hk
        obtain ⟨a1, c1, rfl⟩ := hV.out.ex.e1.ev.shape
        obtain ⟨a2, c2, rfl⟩ := hV.out.ex.e2.ev.shape
        obtain ⟨a3, c3, rfl⟩ := hV.out.ex.e3.ev.shape
        obtain ⟨a4, c4, rfl⟩ := hV.out.ex.e4.ev.shape
        obtain ⟨va, vc, rfl⟩ := hV.out.sx.sv.shape
        go_wp2_with fail
        have bd : Below wr.heap.size wr wr.drew := (Below.refl _ wr).drew
        have Vd := hid (hV.out.later bd)
        have Bd : Hid (Below wr.drew.heap.size wr.drew wr.drew) := hid (Below.refl _ _)
        clear bd hV
        refine wp_region_any (by kernel_rfl) ?_
        refine wpAny_ready (rs := [0, 2]) (by kernel_rfl) (by simp) ?_
        refine AllReady.cons rfl (fun K hK => ?_) (AllReady.cons rfl (fun K hK => ?_) AllReady.nil)
        · rw [if_pos (by rfl)]
          simp only [zq]
          have HK := hid hK
          clear hK
          go_wp2_with fail
          refine (l3Num_is 0 _).mono ?_
          rintro e w1y ⟨hret, hb1⟩
          obtain rfl : e = .returned (.agg #[.int .i64 1, .int .i64 0, .string ⟨#[]⟩, .slice Option.none 0 0]) := hret
          have V1y := hid (Vd.out.later hb1)
          have B1y := hid (Bd.out.trans (hb1.mono Bd.out.size))
          clear hb1
          go_wp2_with fail
          refine HK.out _ _ ?_
          clear HK
          try simp only [Act.put, zp]
          refine wpAny_ready (rs := [1, 2]) (by kernel_rfl) (by simp) ?_
          refine AllReady.cons rfl (fun K hK => ?_) (AllReady.cons rfl (fun K hK => ?_) AllReady.nil)
          · rw [if_pos (by rfl)]
            simp only [zq]
            have HK := hid hK
            clear hK
            go_wp2_with fail
            refine (l3Num_is 1 _).mono ?_
            rintro e w2y ⟨hret, hb2⟩
            obtain rfl : e = .returned (.agg #[.int .i64 1, .int .i64 1, .string ⟨#[]⟩, .slice Option.none 0 0]) := hret
            have V2y := hid (V1y.out.later hb2)
            have B2y := hid (B1y.out.trans (hb2.mono B1y.out.size))
            clear hb2
            go_wp2_with fail
            refine HK.out _ _ ?_
            clear HK
            try simp only [Act.put, zp]
            refine wpAny_ready (rs := [2]) (by kernel_rfl) (by simp) ?_
            refine AllReady.cons rfl (fun K hK => ?_) AllReady.nil
            rw [if_pos (by rfl)]
            simp only [zq]
            refine wp_load_mid 98 _ (by rfl) n 0 (by rfl) [.int .i64 h.k, .string h.s, .int .i64 h.x1.h.k, .int .i64 h.x1.h.n, .string h.x1.h.s, (.slice a1 (elen h.x1.l) c1), .int .i64 h.x2.h.k, .int .i64 h.x2.h.n, .string h.x2.h.s, (.slice a2 (elen h.x2.l) c2), .int .i64 h.x3.h.k, .int .i64 h.x3.h.n, .string h.x3.h.s, (.slice a3 (elen h.x3.l) c3), .int .i64 h.x4.h.k, .int .i64 h.x4.h.n, .string h.x4.h.s, (.slice a4 (elen h.x4.l) c4), (.slice va (slen l) vc)] _ V2y.out.rg Tryz.underlying98 rfl sizeIS ?_
            refine hK _ _ ?_
            clear hK
            simp only [Act.put, zp]
            refine wpAny_ready (rs := [3]) (by kernel_rfl) (by simp) ?_
            refine AllReady.cons rfl (fun K hK => ?_) AllReady.nil
            rw [if_pos (by rfl)]
            simp only [zq]
            have HK := hid hK
            clear hK
            go_wp2_with fail
            refine HK.out _ _ ?_
            clear HK
            try simp only [Act.put, zp]
            have hb3 := aB w2y (.cells (#[.int .i64 h.k, .string h.s, .int .i64 h.x1.h.k, .int .i64 h.x1.h.n, .string h.x1.h.s, (.slice a1 (elen h.x1.l) c1), .int .i64 h.x2.h.k, .int .i64 h.x2.h.n, .string h.x2.h.s, (.slice a2 (elen h.x2.l) c2), .int .i64 h.x3.h.k, .int .i64 h.x3.h.n, .string h.x3.h.s, (.slice a3 (elen h.x3.l) c3), .int .i64 h.x4.h.k, .int .i64 h.x4.h.n, .string h.x4.h.s, (.slice a4 (elen h.x4.l) c4), (.slice va (slen l) vc)]) 98)
            have V3y := hid (V2y.out.later hb3)
            have G3y := B2y.out.size
            have B3y := hid (B2y.out.trans (hb3.mono B2y.out.size))
            have R3y := hid (new_rangeS w2y (#[.int .i64 h.k, .string h.s, .int .i64 h.x1.h.k, .int .i64 h.x1.h.n, .string h.x1.h.s, (.slice a1 (elen h.x1.l) c1), .int .i64 h.x2.h.k, .int .i64 h.x2.h.n, .string h.x2.h.s, (.slice a2 (elen h.x2.l) c2), .int .i64 h.x3.h.k, .int .i64 h.x3.h.n, .string h.x3.h.s, (.slice a3 (elen h.x3.l) c3), .int .i64 h.x4.h.k, .int .i64 h.x4.h.n, .string h.x4.h.s, (.slice a4 (elen h.x4.l) c4), (.slice va (slen l) vc)]) 98)
            clear hb3
            refine wpAny_ready (rs := [4]) (by kernel_rfl) (by simp) ?_
            refine AllReady.cons rfl (fun K hK => ?_) AllReady.nil
            rw [if_pos (by rfl)]
            simp only [zq]
            have HK := hid hK
            clear hK
            go_wp2_with fail
            refine HK.out _ _ ?_
            clear HK
            try simp only [Act.put, zp]
            refine wpAny_ready (rs := [5]) (by kernel_rfl) (by simp) ?_
            refine AllReady.cons rfl (fun K hK => ?_) AllReady.nil
            rw [if_pos (by rfl)]
            simp only [zq]
            have V9 := hid (Vd.out.wrap (h' := wrapH) (u1 := nilS) (u2 := nilS) (u3 := nilS) (u4 := nilS) (p := 0) (q := 0) B3y.out G3y R3y.out ⟨EVx.nil _ _ _ _ _, EVx.nil _ _ _ _ _, EVx.nil _ _ _ _ _, EVx.nil _ _ _ _ _⟩)
            refine wp_store_mid 98 _ _ rfl _ _ _ rfl rfl ?hs4 sizeIS ?hu4 ?_
            case hs4 => exact V3y.out.th
            case hu4 => exact oneS wrapH nilS nilS nilS nilS (.slice (some ⟨w2y.heap.size, 0, Option.none⟩) 1 1) rfl rfl rfl rfl rfl
            refine hK _ _ ?_
            simp only [Act.put, zp]
            clear hK
            refine wpAny_done (by kernel_rfl) ?_ _
            go_wp2
            go_roundw
            case rel => exact ⟨k - 1, wrapH, .node 0 0 h l .nil, nilS, nilS, nilS, nilS, _, by go_num, by omega, ⟨V9.out, by have := HSZ.out; have := wrapH_size; simp only [ssize]; omega⟩⟩
            case measure => simp [RowKit.intOf]; omega
          · rw [if_pos (by rfl)]
            simp only [zq]
            refine wp_load_mid 98 _ (by rfl) n 0 (by rfl) [.int .i64 h.k, .string h.s, .int .i64 h.x1.h.k, .int .i64 h.x1.h.n, .string h.x1.h.s, (.slice a1 (elen h.x1.l) c1), .int .i64 h.x2.h.k, .int .i64 h.x2.h.n, .string h.x2.h.s, (.slice a2 (elen h.x2.l) c2), .int .i64 h.x3.h.k, .int .i64 h.x3.h.n, .string h.x3.h.s, (.slice a3 (elen h.x3.l) c3), .int .i64 h.x4.h.k, .int .i64 h.x4.h.n, .string h.x4.h.s, (.slice a4 (elen h.x4.l) c4), (.slice va (slen l) vc)] _ V1y.out.rg Tryz.underlying98 rfl sizeIS ?_
            refine hK _ _ ?_
            clear hK
            simp only [Act.put, zp]
            refine wpAny_ready (rs := [1, 3]) (by kernel_rfl) (by simp) ?_
            refine AllReady.cons rfl (fun K hK => ?_) (AllReady.cons rfl (fun K hK => ?_) AllReady.nil)
            · rw [if_pos (by rfl)]
              simp only [zq]
              have HK := hid hK
              clear hK
              go_wp2_with fail
              refine (l3Num_is 1 _).mono ?_
              rintro e w5y ⟨hret, hb5⟩
              obtain rfl : e = .returned (.agg #[.int .i64 1, .int .i64 1, .string ⟨#[]⟩, .slice Option.none 0 0]) := hret
              have V5y := hid (V1y.out.later hb5)
              have B5y := hid (B1y.out.trans (hb5.mono B1y.out.size))
              clear hb5
              go_wp2_with fail
              refine HK.out _ _ ?_
              clear HK
              try simp only [Act.put, zp]
              refine wpAny_ready (rs := [3]) (by kernel_rfl) (by simp) ?_
              refine AllReady.cons rfl (fun K hK => ?_) AllReady.nil
              rw [if_pos (by rfl)]
              simp only [zq]
              have HK := hid hK
              clear hK
              go_wp2_with fail
              refine HK.out _ _ ?_
              clear HK
              try simp only [Act.put, zp]
              have hb6 := aB w5y (.cells (#[.int .i64 h.k, .string h.s, .int .i64 h.x1.h.k, .int .i64 h.x1.h.n, .string h.x1.h.s, (.slice a1 (elen h.x1.l) c1), .int .i64 h.x2.h.k, .int .i64 h.x2.h.n, .string h.x2.h.s, (.slice a2 (elen h.x2.l) c2), .int .i64 h.x3.h.k, .int .i64 h.x3.h.n, .string h.x3.h.s, (.slice a3 (elen h.x3.l) c3), .int .i64 h.x4.h.k, .int .i64 h.x4.h.n, .string h.x4.h.s, (.slice a4 (elen h.x4.l) c4), (.slice va (slen l) vc)]) 98)
              have V6y := hid (V5y.out.later hb6)
              have G6y := B5y.out.size
              have B6y := hid (B5y.out.trans (hb6.mono B5y.out.size))
              have R6y := hid (new_rangeS w5y (#[.int .i64 h.k, .string h.s, .int .i64 h.x1.h.k, .int .i64 h.x1.h.n, .string h.x1.h.s, (.slice a1 (elen h.x1.l) c1), .int .i64 h.x2.h.k, .int .i64 h.x2.h.n, .string h.x2.h.s, (.slice a2 (elen h.x2.l) c2), .int .i64 h.x3.h.k, .int .i64 h.x3.h.n, .string h.x3.h.s, (.slice a3 (elen h.x3.l) c3), .int .i64 h.x4.h.k, .int .i64 h.x4.h.n, .string h.x4.h.s, (.slice a4 (elen h.x4.l) c4), (.slice va (slen l) vc)]) 98)
              clear hb6
              refine wpAny_ready (rs := [4]) (by kernel_rfl) (by simp) ?_
              refine AllReady.cons rfl (fun K hK => ?_) AllReady.nil
              rw [if_pos (by rfl)]
              simp only [zq]
              have HK := hid hK
              clear hK
              go_wp2_with fail
              refine HK.out _ _ ?_
              clear HK
              try simp only [Act.put, zp]
              refine wpAny_ready (rs := [5]) (by kernel_rfl) (by simp) ?_
              refine AllReady.cons rfl (fun K hK => ?_) AllReady.nil
              rw [if_pos (by rfl)]
              simp only [zq]
              have V9 := hid (Vd.out.wrap (h' := wrapH) (u1 := nilS) (u2 := nilS) (u3 := nilS) (u4 := nilS) (p := 0) (q := 0) B6y.out G6y R6y.out ⟨EVx.nil _ _ _ _ _, EVx.nil _ _ _ _ _, EVx.nil _ _ _ _ _, EVx.nil _ _ _ _ _⟩)
              refine wp_store_mid 98 _ _ rfl _ _ _ rfl rfl ?hs7 sizeIS ?hu7 ?_
              case hs7 => exact V6y.out.th
              case hu7 => exact oneS wrapH nilS nilS nilS nilS (.slice (some ⟨w5y.heap.size, 0, Option.none⟩) 1 1) rfl rfl rfl rfl rfl
              refine hK _ _ ?_
              simp only [Act.put, zp]
              clear hK
              refine wpAny_done (by kernel_rfl) ?_ _
              go_wp2
              go_roundw
              case rel => exact ⟨k - 1, wrapH, .node 0 0 h l .nil, nilS, nilS, nilS, nilS, _, by go_num, by omega, ⟨V9.out, by have := HSZ.out; have := wrapH_size; simp only [ssize]; omega⟩⟩
              case measure => simp [RowKit.intOf]; omega
            · rw [if_pos (by rfl)]
              simp only [zq]
              have HK := hid hK
              clear hK
              go_wp2_with fail
              refine HK.out _ _ ?_
              clear HK
              try simp only [Act.put, zp]
              have hb8 := aB w1y (.cells (#[.int .i64 h.k, .string h.s, .int .i64 h.x1.h.k, .int .i64 h.x1.h.n, .string h.x1.h.s, (.slice a1 (elen h.x1.l) c1), .int .i64 h.x2.h.k, .int .i64 h.x2.h.n, .string h.x2.h.s, (.slice a2 (elen h.x2.l) c2), .int .i64 h.x3.h.k, .int .i64 h.x3.h.n, .string h.x3.h.s, (.slice a3 (elen h.x3.l) c3), .int .i64 h.x4.h.k, .int .i64 h.x4.h.n, .string h.x4.h.s, (.slice a4 (elen h.x4.l) c4), (.slice va (slen l) vc)]) 98)
              have V8y := hid (V1y.out.later hb8)
              have G8y := B1y.out.size
              have B8y := hid (B1y.out.trans (hb8.mono B1y.out.size))
              have R8y := hid (new_rangeS w1y (#[.int .i64 h.k, .string h.s, .int .i64 h.x1.h.k, .int .i64 h.x1.h.n, .string h.x1.h.s, (.slice a1 (elen h.x1.l) c1), .int .i64 h.x2.h.k, .int .i64 h.x2.h.n, .string h.x2.h.s, (.slice a2 (elen h.x2.l) c2), .int .i64 h.x3.h.k, .int .i64 h.x3.h.n, .string h.x3.h.s, (.slice a3 (elen h.x3.l) c3), .int .i64 h.x4.h.k, .int .i64 h.x4.h.n, .string h.x4.h.s, (.slice a4 (elen h.x4.l) c4), (.slice va (slen l) vc)]) 98)
              clear hb8
              refine wpAny_ready (rs := [1]) (by kernel_rfl) (by simp) ?_
              refine AllReady.cons rfl (fun K hK => ?_) AllReady.nil
              rw [if_pos (by rfl)]
              simp only [zq]
              have HK := hid hK
              clear hK
              go_wp2_with fail
              refine (l3Num_is 1 _).mono ?_
              rintro e w9y ⟨hret, hb9⟩
              obtain rfl : e = .returned (.agg #[.int .i64 1, .int .i64 1, .string ⟨#[]⟩, .slice Option.none 0 0]) := hret
              have V9y := hid (V8y.out.later hb9)
              have B9y := hid (B8y.out.trans (hb9.mono B8y.out.size))
              have R9y := hid (rangeAt_later R8y.out hb9)
              clear hb9
              go_wp2_with fail
              refine HK.out _ _ ?_
              clear HK
              try simp only [Act.put, zp]
              refine wpAny_ready (rs := [4]) (by kernel_rfl) (by simp) ?_
              refine AllReady.cons rfl (fun K hK => ?_) AllReady.nil
              rw [if_pos (by rfl)]
              simp only [zq]
              have HK := hid hK
              clear hK
              go_wp2_with fail
              refine HK.out _ _ ?_
              clear HK
              try simp only [Act.put, zp]
              refine wpAny_ready (rs := [5]) (by kernel_rfl) (by simp) ?_
              refine AllReady.cons rfl (fun K hK => ?_) AllReady.nil
              rw [if_pos (by rfl)]
              simp only [zq]
              have V9 := hid (Vd.out.wrap (h' := wrapH) (u1 := nilS) (u2 := nilS) (u3 := nilS) (u4 := nilS) (p := 0) (q := 0) B9y.out G8y R9y.out ⟨EVx.nil _ _ _ _ _, EVx.nil _ _ _ _ _, EVx.nil _ _ _ _ _, EVx.nil _ _ _ _ _⟩)
              refine wp_store_mid 98 _ _ rfl _ _ _ rfl rfl ?hs10 sizeIS ?hu10 ?_
              case hs10 => exact V9y.out.th
              case hu10 => exact oneS wrapH nilS nilS nilS nilS (.slice (some ⟨w1y.heap.size, 0, Option.none⟩) 1 1) rfl rfl rfl rfl rfl
              refine hK _ _ ?_
              simp only [Act.put, zp]
              clear hK
              refine wpAny_done (by kernel_rfl) ?_ _
              go_wp2
              go_roundw
              case rel => exact ⟨k - 1, wrapH, .node 0 0 h l .nil, nilS, nilS, nilS, nilS, _, by go_num, by omega, ⟨V9.out, by have := HSZ.out; have := wrapH_size; simp only [ssize]; omega⟩⟩
              case measure => simp [RowKit.intOf]; omega
        · rw [if_pos (by rfl)]
          simp only [zq]
          refine wp_load_mid 98 _ (by rfl) n 0 (by rfl) [.int .i64 h.k, .string h.s, .int .i64 h.x1.h.k, .int .i64 h.x1.h.n, .string h.x1.h.s, (.slice a1 (elen h.x1.l) c1), .int .i64 h.x2.h.k, .int .i64 h.x2.h.n, .string h.x2.h.s, (.slice a2 (elen h.x2.l) c2), .int .i64 h.x3.h.k, .int .i64 h.x3.h.n, .string h.x3.h.s, (.slice a3 (elen h.x3.l) c3), .int .i64 h.x4.h.k, .int .i64 h.x4.h.n, .string h.x4.h.s, (.slice a4 (elen h.x4.l) c4), (.slice va (slen l) vc)] _ Vd.out.rg Tryz.underlying98 rfl sizeIS ?_
          refine hK _ _ ?_
          clear hK
          simp only [Act.put, zp]
          refine wpAny_ready (rs := [0, 3]) (by kernel_rfl) (by simp) ?_
          refine AllReady.cons rfl (fun K hK => ?_) (AllReady.cons rfl (fun K hK => ?_) AllReady.nil)
          · rw [if_pos (by rfl)]
            simp only [zq]
            have HK := hid hK
            clear hK
            go_wp2_with fail
            refine (l3Num_is 0 _).mono ?_
            rintro e w11y ⟨hret, hb11⟩
            obtain rfl : e = .returned (.agg #[.int .i64 1, .int .i64 0, .string ⟨#[]⟩, .slice Option.none 0 0]) := hret
            have V11y := hid (Vd.out.later hb11)
            have B11y := hid (Bd.out.trans (hb11.mono Bd.out.size))
            clear hb11
            go_wp2_with fail
            refine HK.out _ _ ?_
            clear HK
            try simp only [Act.put, zp]
            refine wpAny_ready (rs := [1, 3]) (by kernel_rfl) (by simp) ?_
            refine AllReady.cons rfl (fun K hK => ?_) (AllReady.cons rfl (fun K hK => ?_) AllReady.nil)
            · rw [if_pos (by rfl)]
              simp only [zq]
              have HK := hid hK
              clear hK
              go_wp2_with fail
              refine (l3Num_is 1 _).mono ?_
              rintro e w12y ⟨hret, hb12⟩
              obtain rfl : e = .returned (.agg #[.int .i64 1, .int .i64 1, .string ⟨#[]⟩, .slice Option.none 0 0]) := hret
              have V12y := hid (V11y.out.later hb12)
              have B12y := hid (B11y.out.trans (hb12.mono B11y.out.size))
              clear hb12
              go_wp2_with fail
              refine HK.out _ _ ?_
              clear HK
              try simp only [Act.put, zp]
              refine wpAny_ready (rs := [3]) (by kernel_rfl) (by simp) ?_
              refine AllReady.cons rfl (fun K hK => ?_) AllReady.nil
              rw [if_pos (by rfl)]
              simp only [zq]
              have HK := hid hK
              clear hK
              go_wp2_with fail
              refine HK.out _ _ ?_
              clear HK
              try simp only [Act.put, zp]
              have hb13 := aB w12y (.cells (#[.int .i64 h.k, .string h.s, .int .i64 h.x1.h.k, .int .i64 h.x1.h.n, .string h.x1.h.s, (.slice a1 (elen h.x1.l) c1), .int .i64 h.x2.h.k, .int .i64 h.x2.h.n, .string h.x2.h.s, (.slice a2 (elen h.x2.l) c2), .int .i64 h.x3.h.k, .int .i64 h.x3.h.n, .string h.x3.h.s, (.slice a3 (elen h.x3.l) c3), .int .i64 h.x4.h.k, .int .i64 h.x4.h.n, .string h.x4.h.s, (.slice a4 (elen h.x4.l) c4), (.slice va (slen l) vc)]) 98)
              have V13y := hid (V12y.out.later hb13)
              have G13y := B12y.out.size
              have B13y := hid (B12y.out.trans (hb13.mono B12y.out.size))
              have R13y := hid (new_rangeS w12y (#[.int .i64 h.k, .string h.s, .int .i64 h.x1.h.k, .int .i64 h.x1.h.n, .string h.x1.h.s, (.slice a1 (elen h.x1.l) c1), .int .i64 h.x2.h.k, .int .i64 h.x2.h.n, .string h.x2.h.s, (.slice a2 (elen h.x2.l) c2), .int .i64 h.x3.h.k, .int .i64 h.x3.h.n, .string h.x3.h.s, (.slice a3 (elen h.x3.l) c3), .int .i64 h.x4.h.k, .int .i64 h.x4.h.n, .string h.x4.h.s, (.slice a4 (elen h.x4.l) c4), (.slice va (slen l) vc)]) 98)
              clear hb13
              refine wpAny_ready (rs := [4]) (by kernel_rfl) (by simp) ?_
              refine AllReady.cons rfl (fun K hK => ?_) AllReady.nil
              rw [if_pos (by rfl)]
              simp only [zq]
              have HK := hid hK
              clear hK
              go_wp2_with fail
              refine HK.out _ _ ?_
              clear HK
              try simp only [Act.put, zp]
              refine wpAny_ready (rs := [5]) (by kernel_rfl) (by simp) ?_
              refine AllReady.cons rfl (fun K hK => ?_) AllReady.nil
              rw [if_pos (by rfl)]
              simp only [zq]
              have V9 := hid (Vd.out.wrap (h' := wrapH) (u1 := nilS) (u2 := nilS) (u3 := nilS) (u4 := nilS) (p := 0) (q := 0) B13y.out G13y R13y.out ⟨EVx.nil _ _ _ _ _, EVx.nil _ _ _ _ _, EVx.nil _ _ _ _ _, EVx.nil _ _ _ _ _⟩)
              refine wp_store_mid 98 _ _ rfl _ _ _ rfl rfl ?hs14 sizeIS ?hu14 ?_
              case hs14 => exact V13y.out.th
              case hu14 => exact oneS wrapH nilS nilS nilS nilS (.slice (some ⟨w12y.heap.size, 0, Option.none⟩) 1 1) rfl rfl rfl rfl rfl
              refine hK _ _ ?_
              simp only [Act.put, zp]
              clear hK
              refine wpAny_done (by kernel_rfl) ?_ _
              go_wp2
              go_roundw
              case rel => exact ⟨k - 1, wrapH, .node 0 0 h l .nil, nilS, nilS, nilS, nilS, _, by go_num, by omega, ⟨V9.out, by have := HSZ.out; have := wrapH_size; simp only [ssize]; omega⟩⟩
              case measure => simp [RowKit.intOf]; omega
            · rw [if_pos (by rfl)]
              simp only [zq]
              have HK := hid hK
              clear hK
              go_wp2_with fail
              refine HK.out _ _ ?_
              clear HK
              try simp only [Act.put, zp]
              have hb15 := aB w11y (.cells (#[.int .i64 h.k, .string h.s, .int .i64 h.x1.h.k, .int .i64 h.x1.h.n, .string h.x1.h.s, (.slice a1 (elen h.x1.l) c1), .int .i64 h.x2.h.k, .int .i64 h.x2.h.n, .string h.x2.h.s, (.slice a2 (elen h.x2.l) c2), .int .i64 h.x3.h.k, .int .i64 h.x3.h.n, .string h.x3.h.s, (.slice a3 (elen h.x3.l) c3), .int .i64 h.x4.h.k, .int .i64 h.x4.h.n, .string h.x4.h.s, (.slice a4 (elen h.x4.l) c4), (.slice va (slen l) vc)]) 98)
              have V15y := hid (V11y.out.later hb15)
              have G15y := B11y.out.size
              have B15y := hid (B11y.out.trans (hb15.mono B11y.out.size))
              have R15y := hid (new_rangeS w11y (#[.int .i64 h.k, .string h.s, .int .i64 h.x1.h.k, .int .i64 h.x1.h.n, .string h.x1.h.s, (.slice a1 (elen h.x1.l) c1), .int .i64 h.x2.h.k, .int .i64 h.x2.h.n, .string h.x2.h.s, (.slice a2 (elen h.x2.l) c2), .int .i64 h.x3.h.k, .int .i64 h.x3.h.n, .string h.x3.h.s, (.slice a3 (elen h.x3.l) c3), .int .i64 h.x4.h.k, .int .i64 h.x4.h.n, .string h.x4.h.s, (.slice a4 (elen h.x4.l) c4), (.slice va (slen l) vc)]) 98)
              clear hb15
              refine wpAny_ready (rs := [1]) (by kernel_rfl) (by simp) ?_
              refine AllReady.cons rfl (fun K hK => ?_) AllReady.nil
              rw [if_pos (by rfl)]
              simp only [zq]
              have HK := hid hK
              clear hK
              go_wp2_with fail
              refine (l3Num_is 1 _).mono ?_
              rintro e w16y ⟨hret, hb16⟩
              obtain rfl : e = .returned (.agg #[.int .i64 1, .int .i64 1, .string ⟨#[]⟩, .slice Option.none 0 0]) := hret
              have V16y := hid (V15y.out.later hb16)
              have B16y := hid (B15y.out.trans (hb16.mono B15y.out.size))
              have R16y := hid (rangeAt_later R15y.out hb16)
              clear hb16
              go_wp2_with fail
              refine HK.out _ _ ?_
              clear HK
              try simp only [Act.put, zp]
              refine wpAny_ready (rs := [4]) (by kernel_rfl) (by simp) ?_
              refine AllReady.cons rfl (fun K hK => ?_) AllReady.nil
              rw [if_pos (by rfl)]
              simp only [zq]
              have HK := hid hK
              clear hK
              go_wp2_with fail
              refine HK.out _ _ ?_
              clear HK
              try simp only [Act.put, zp]
              refine wpAny_ready (rs := [5]) (by kernel_rfl) (by simp) ?_
              refine AllReady.cons rfl (fun K hK => ?_) AllReady.nil
              rw [if_pos (by rfl)]
              simp only [zq]
              have V9 := hid (Vd.out.wrap (h' := wrapH) (u1 := nilS) (u2 := nilS) (u3 := nilS) (u4 := nilS) (p := 0) (q := 0) B16y.out G15y R16y.out ⟨EVx.nil _ _ _ _ _, EVx.nil _ _ _ _ _, EVx.nil _ _ _ _ _, EVx.nil _ _ _ _ _⟩)
              refine wp_store_mid 98 _ _ rfl _ _ _ rfl rfl ?hs17 sizeIS ?hu17 ?_
              case hs17 => exact V16y.out.th
              case hu17 => exact oneS wrapH nilS nilS nilS nilS (.slice (some ⟨w11y.heap.size, 0, Option.none⟩) 1 1) rfl rfl rfl rfl rfl
              refine hK _ _ ?_
              simp only [Act.put, zp]
              clear hK
              refine wpAny_done (by kernel_rfl) ?_ _
              go_wp2
              go_roundw
              case rel => exact ⟨k - 1, wrapH, .node 0 0 h l .nil, nilS, nilS, nilS, nilS, _, by go_num, by omega, ⟨V9.out, by have := HSZ.out; have := wrapH_size; simp only [ssize]; omega⟩⟩
              case measure => simp [RowKit.intOf]; omega
          · rw [if_pos (by rfl)]
            simp only [zq]
            have HK := hid hK
            clear hK
            go_wp2_with fail
            refine HK.out _ _ ?_
            clear HK
            try simp only [Act.put, zp]
            have hb18 := aB wr.drew (.cells (#[.int .i64 h.k, .string h.s, .int .i64 h.x1.h.k, .int .i64 h.x1.h.n, .string h.x1.h.s, (.slice a1 (elen h.x1.l) c1), .int .i64 h.x2.h.k, .int .i64 h.x2.h.n, .string h.x2.h.s, (.slice a2 (elen h.x2.l) c2), .int .i64 h.x3.h.k, .int .i64 h.x3.h.n, .string h.x3.h.s, (.slice a3 (elen h.x3.l) c3), .int .i64 h.x4.h.k, .int .i64 h.x4.h.n, .string h.x4.h.s, (.slice a4 (elen h.x4.l) c4), (.slice va (slen l) vc)]) 98)
            have V18y := hid (Vd.out.later hb18)
            have G18y := Bd.out.size
            have B18y := hid (Bd.out.trans (hb18.mono Bd.out.size))
            have R18y := hid (new_rangeS wr.drew (#[.int .i64 h.k, .string h.s, .int .i64 h.x1.h.k, .int .i64 h.x1.h.n, .string h.x1.h.s, (.slice a1 (elen h.x1.l) c1), .int .i64 h.x2.h.k, .int .i64 h.x2.h.n, .string h.x2.h.s, (.slice a2 (elen h.x2.l) c2), .int .i64 h.x3.h.k, .int .i64 h.x3.h.n, .string h.x3.h.s, (.slice a3 (elen h.x3.l) c3), .int .i64 h.x4.h.k, .int .i64 h.x4.h.n, .string h.x4.h.s, (.slice a4 (elen h.x4.l) c4), (.slice va (slen l) vc)]) 98)
            clear hb18
            refine wpAny_ready (rs := [0]) (by kernel_rfl) (by simp) ?_
            refine AllReady.cons rfl (fun K hK => ?_) AllReady.nil
            rw [if_pos (by rfl)]
            simp only [zq]
            have HK := hid hK
            clear hK
            go_wp2_with fail
            refine (l3Num_is 0 _).mono ?_
            rintro e w19y ⟨hret, hb19⟩
            obtain rfl : e = .returned (.agg #[.int .i64 1, .int .i64 0, .string ⟨#[]⟩, .slice Option.none 0 0]) := hret
            have V19y := hid (V18y.out.later hb19)
            have B19y := hid (B18y.out.trans (hb19.mono B18y.out.size))
            have R19y := hid (rangeAt_later R18y.out hb19)
            clear hb19
            go_wp2_with fail
            refine HK.out _ _ ?_
            clear HK
            try simp only [Act.put, zp]
            refine wpAny_ready (rs := [1]) (by kernel_rfl) (by simp) ?_
            refine AllReady.cons rfl (fun K hK => ?_) AllReady.nil
            rw [if_pos (by rfl)]
            simp only [zq]
            have HK := hid hK
            clear hK
            go_wp2_with fail
            refine (l3Num_is 1 _).mono ?_
            rintro e w20y ⟨hret, hb20⟩
            obtain rfl : e = .returned (.agg #[.int .i64 1, .int .i64 1, .string ⟨#[]⟩, .slice Option.none 0 0]) := hret
            have V20y := hid (V19y.out.later hb20)
            have B20y := hid (B19y.out.trans (hb20.mono B19y.out.size))
            have R20y := hid (rangeAt_later R19y.out hb20)
            clear hb20
            go_wp2_with fail
            refine HK.out _ _ ?_
            clear HK
            try simp only [Act.put, zp]
            refine wpAny_ready (rs := [4]) (by kernel_rfl) (by simp) ?_
            refine AllReady.cons rfl (fun K hK => ?_) AllReady.nil
            rw [if_pos (by rfl)]
            simp only [zq]
            have HK := hid hK
            clear hK
            go_wp2_with fail
            refine HK.out _ _ ?_
            clear HK
            try simp only [Act.put, zp]
            refine wpAny_ready (rs := [5]) (by kernel_rfl) (by simp) ?_
            refine AllReady.cons rfl (fun K hK => ?_) AllReady.nil
            rw [if_pos (by rfl)]
            simp only [zq]
            have V9 := hid (Vd.out.wrap (h' := wrapH) (u1 := nilS) (u2 := nilS) (u3 := nilS) (u4 := nilS) (p := 0) (q := 0) B20y.out G18y R20y.out ⟨EVx.nil _ _ _ _ _, EVx.nil _ _ _ _ _, EVx.nil _ _ _ _ _, EVx.nil _ _ _ _ _⟩)
            refine wp_store_mid 98 _ _ rfl _ _ _ rfl rfl ?hs21 sizeIS ?hu21 ?_
            case hs21 => exact V20y.out.th
            case hu21 => exact oneS wrapH nilS nilS nilS nilS (.slice (some ⟨wr.drew.heap.size, 0, Option.none⟩) 1 1) rfl rfl rfl rfl rfl
            refine hK _ _ ?_
            simp only [Act.put, zp]
            clear hK
            refine wpAny_done (by kernel_rfl) ?_ _
            go_wp2
            go_roundw
            case rel => exact ⟨k - 1, wrapH, .node 0 0 h l .nil, nilS, nilS, nilS, nilS, _, by go_num, by omega, ⟨V9.out, by have := HSZ.out; have := wrapH_size; simp only [ssize]; omega⟩⟩
            case measure => simp [RowKit.intOf]; omega
  · have q0 : (y == 0) = false := int_ne (by omega)
    have q1 : (y == 1) = false := int_ne (by omega)
    have q2 : (y == 2) = false := int_ne (by omega)
    have q3 : (y == 3) = false := int_ne (by omega)
    have q4 : (y == 4) = false := int_ne (by omega)
    have q5 : (y == 5) = false := int_ne (by omega)
    have q6 : (y == 6) = false := int_ne (by omega)
    clear y0 y1 hy7
    go_wp2_with (first | (refine wpList_load_mid rfl 98 _ rfl n 0 rfl _ _ V0.out.rg Tryz.underlying98 rfl sizeIS ?_) | (refine sA rfl 98 _ _ rfl _ _ _ rfl rfl ?hteh sizeIS ?hoeh ?_; exact V0.out.thN; exact (oneS h0 v1 v2 v3 v4 v V0.out.ex.e1.ev.isOne V0.out.ex.e2.ev.isOne V0.out.ex.e3.ev.isOne V0.out.ex.e4.ev.isOne V0.out.sx.sv.isOne); intro WE hW; have HC := hid (V0.out.close hW); clear hW))
    obtain ⟨rg, q1, q2, q3, q4⟩ := HC.out
    have hlv := run_loadVar_mid WE w.heap.size 0 _ _ _ rg Tryz.underlying98 rfl sizeIS
    refine bodyPost_ret (v := .agg (scells h0 v1 v2 v3 v4 v).toArray) ?_ rfl ⟨h0, l0, v1, v2, v3, v4, v, rfl, q1, q2, (by have := HS0.out; have := limS2; unfold limT; omega), q3, q4⟩
    simp [results, Tryz.results60, asAddr, hlv, Act.put]
    try rfl
end Go.Proofs.YtpinockfakndlaaGreat
