/-
  One hand at work, the specification: l7For.
-/
import Derived.Test.YtfoghiminlbdaaaGreatZp
import Derived.Test.YtfoghiminlbdaaaGreatP25ofRun
import Derived.Deep.CutRange
namespace Go.Proofs.YtfoghiminlbdaaaGreat
open Go.RowKit Go.Lib
set_option linter.unusedSimpArgs false
set_option linter.unusedVariables false
def SBodyC (w0 : World) (R : Nat) (ts : List AR) (ns : List ByteArray) (vn : Nat) (va vb nv sa sv : Value) (g : Nat) : Prop :=
  ∀ (F : SF) (bs : List AR) (st : St) (rs : List VR) (so bv : Value) (w : World) (u : Value), rdyF ns vn F → snodes F ≤ 1048576 → bs.length + snodes F ≤ 100000 → Fine ts ns vn bs st → st.f < g → QS w0 w R ts ns rs st 0 bs va vb nv sa sv so bv → SV w0 0 F u →
    Calls Tryz.prog 44 #[.pointer (some ⟨R, 0, Option.none⟩), u] w fun e w' => e = .returned (.tuple #[]) ∧ SpR w0 R ts ns bs va vb nv sa sv w (exec ts ns g bs (.inl F) st) w'
structure FoR (w0 w : World) (R : Nat) (ts : List AR) (ns : List ByteArray) (vn : Nat) (va vb nv sa sv : Value) (bs : List AR) (nm : ByteArray) (l : SF) (hi : Int) (n : Int) (tot : Nat × St) (g : Nat) (wr : World) : Prop where
  is : ∃ (g' : Nat) (st : St) (rs : List VR) (so bv : Value) (en : Nat) (ex : List AR), QS w0 wr R ts ns rs st en (bs ++ ex) va vb nv sa sv so bv ∧ Fine ts ns vn bs st ∧ ((en = 0 ∧ st.f < g' ∧ g' ≤ g ∧ tot = exec ts ns g' bs (.inr (nm, l, n, hi)) st) ∨ (¬ en = 0 ∧ tot = (en, st)))
  kq : KQ R w wr
  sz : w.heap.size ≤ wr.heap.size
def Lk2 (R N : Nat) (w : World) (v : Value) (s : ByteArray) : Prop := w.cell? ⟨R, 7, Option.none⟩ = some v ∧ w.cell? ⟨N, 1, Option.none⟩ = some (.string s)
set_option maxHeartbeats 8000000 in
set_option maxRecDepth 100000 in
theorem l7For_of {w0 : World} {R : Nat} {ts : List AR} {ns : List ByteArray} {vn : Nat} {rs : List VR} {st : St} {va vb nv sa sv so bv : Value} {bs : List AR} {g : Nat} (IH : ∀ g', g' < g → SBodyC w0 R ts ns vn va vb nv sa sv g') (hf : Fine ts ns vn bs st) (hg : st.f < g) (hvb : vb.oneCell' = true) (h : SH) (l : SF) (hl : rdyF ns vn l) (hll : snodes l ≤ 1048576) (hbl : bs.length + 1 + snodes l ≤ 100000) (hk3 : h.k = 3) (ht3 : toldX 8 h.x3 = true) (ht4 : toldX 8 h.x4 = true) (w : World) (v1 v2 v3 v4 u : Value) (hr : QS w0 w R ts ns rs st 0 bs va vb nv sa sv so bv) (hv : HV w 0 h v1 v2 v3 v4) (hu : SV w0 0 l u) :
    Calls Tryz.prog 93 #[.pointer (some ⟨R, 0, Option.none⟩), sagg h v1 v2 v3 v4 u] w fun e w' => e = .returned (.tuple #[]) ∧ SpR w0 R ts ns bs va vb nv sa sv w (stepS ts ns bs h st fun lo hi s' => exec ts ns g bs (.inr (h.s, l, lo, hi)) s') w' := by
  have HI := hid IH
  have HF := hid (And.intro hf hg)
  have HL := hid (And.intro hl hll)
  have HBL : Hid (bs.length + 1 + snodes l ≤ 100000) := hbl
  have HBL0 : Hid (bs.length ≤ 100000) := show _ ≤ _ by omega
  have HT := hid (And.intro ht3 ht4)
  have HVB := hid hvb
  have HU := hid hu
  have hRs := lt_heap hr.blk
  have hbA := alloc_below w (.cells (sarr h v1 v2 v3 v4 u) 119)
  have BA := hid hbA
  have R0 := hid (hr.later hbA)
  have SB := hid (boxS w h v1 v2 v3 v4 u 119)
  have SK := hid (blkLast w (.cells (sarr h v1 v2 v3 v4 u) 119))
  have E3 := hid (boxX3 SB.out)
  have V3 := hid (hv.e3.later hbA)
  have V4 := hid (hv.e4.later hbA)
  obtain ⟨ua, uc, hus⟩ := hu.shape
  obtain ⟨tot, htot⟩ : ∃ tot, stepS ts ns bs h st (fun lo hi s' => exec ts ns g bs (.inr (h.s, l, lo, hi)) s') = tot := ⟨_, rfl⟩
  have hsim : Hid ((∀ lo hi, evS ts ns bs st h.x3 = some lo → evS ts ns bs st h.x4 = some hi → tot = exec ts ns g bs (.inr (h.s, l, lo, hi)) st) ∧ ((evS ts ns bs st h.x3 = none ∨ evS ts ns bs st h.x4 = none) → tot = (1, st))) := by
    refine ⟨fun lo hi e1 e2 => ?_, fun e => ?_⟩
    · rw [← htot, stepS, if_pos hk3, e1, e2]
    · rw [← htot, stepS, if_pos hk3]
      rcases e with e | e
      · rw [e]
      · rw [e]; cases evS ts ns bs st h.x3 <;> rfl
  rw [htot]
  subst hus
  clear hr hf ht3 ht4 hvb hbA hv hk3 IH hg hl hu htot hll hbl
  go_enter Tryz.func93, Tryz.ntmps93
  go_wp2_with (refine wpList_load_mid rfl 43 _ rfl w.heap.size 10 rfl _ _ E3.out Tryz.underlying43 rfl sizeExp4 ?_)
  refine (value_s HF.out.1.rb HBL0.out HVB.out h.x3 HT.out.1 _ v3 R0.out V3.out).mono ?_
  rintro e w1 ⟨he, hb1⟩
  have R1 := hid (R0.out.later hb1)
  have B1 := hid (BA.out.trans (hb1.mono BA.out.size))
  have S1 := hid (rangeAt_later SB.out hb1)
  have SK1 := hid ((hb1.block _ (lt_heap SK.out)).trans SK.out)
  have V41 := hid (V4.out.later hb1)
  have E4 := hid (boxX4 S1.out)
  obtain ⟨r1, hr1⟩ : ∃ r, evS ts ns bs st h.x3 = r := ⟨_, rfl⟩
  rw [hr1] at he
  have HR1 := hid hr1
  clear hb1 hr1 R0 E3 V3 V4 BA SB SK
  cases r1 with
  | none =>
    obtain rfl : e = .returned (.tuple #[.int .i64 0, .bool false]) := he
    have hs1 := hid (hsim.out.2 (.inl HR1.out))
    have T := hid (R1.out.end_ 1)
    obtain ⟨_, _, _, _, c6, _, _, fz⟩ := R1.out.cells
    have f6 := fz 6
    clear fz
    go_wp2
    refine bodyPost_ret (results_none rfl _ _ _) rfl ?_
    exact ⟨rfl, rs, so, bv, (by rw [hs1.out]; exact T.out.1), (KQ.of B1.out).trans T.out.2, by rw [World.size_setCell]; exact B1.out.size⟩
  | some lo =>
    obtain rfl : e = .returned (.tuple #[.int .i64 lo, .bool true]) := he
    go_wp2_with (refine wpList_load_mid rfl 43 _ rfl w.heap.size 14 rfl _ _ E4.out Tryz.underlying43 rfl sizeExp4 ?_)
    refine (value_s HF.out.1.rb HBL0.out HVB.out h.x4 HT.out.2 _ v4 R1.out V41.out).mono ?_
    rintro e w2 ⟨he, hb2⟩
    have R2 := hid (R1.out.later hb2)
    have B2 := hid (B1.out.trans (hb2.mono B1.out.size))
    have SK2 := hid ((hb2.block _ (lt_heap SK1.out)).trans SK1.out)
    obtain ⟨r2, hr2⟩ : ∃ r, evS ts ns bs st h.x4 = r := ⟨_, rfl⟩
    rw [hr2] at he
    have HR2 := hid hr2
    clear hb2 hr2 R1 E4 V41 S1 B1 SK1
    cases r2 with
    | none =>
      obtain rfl : e = .returned (.tuple #[.int .i64 0, .bool false]) := he
      have hs1 := hid (hsim.out.2 (.inr HR2.out))
      have T := hid (R2.out.end_ 1)
      obtain ⟨_, _, _, _, c6, _, _, fz⟩ := R2.out.cells
      have f6 := fz 6
      clear fz
      go_wp2
      refine bodyPost_ret (results_none rfl _ _ _) rfl ?_
      exact ⟨rfl, rs, so, bv, (by rw [hs1.out]; exact T.out.1), (KQ.of B2.out).trans T.out.2, by rw [World.size_setCell]; exact B2.out.size⟩
    | some hi =>
      obtain rfl : e = .returned (.tuple #[.int .i64 hi, .bool true]) := he
      have hs1 := hid (hsim.out.1 lo hi HR1.out HR2.out)
      have wlo := HF.out.1.ev HT.out.1 HR1.out
      have whi := HF.out.1.ev HT.out.2 HR2.out
      obtain ⟨wl1, wl2⟩ := wlo
      obtain ⟨wh1, wh2⟩ := whi
      obtain ⟨b0, k0, hbv0⟩ := ownShape R2.out.bd
      have L0 : Hid (FoR w0 w R ts ns vn va vb nv sa sv bs h.s l hi lo tot g w2) := ⟨⟨g, st, rs, so, bv, 0, [], by rw [List.append_nil]; exact R2.out, HF.out.1, .inl ⟨rfl, HF.out.2, Nat.le_refl _, hs1.out⟩⟩, KQ.of B2.out, B2.out.size⟩
      obtain ⟨_, _, _, _, _, c7, _, _⟩ := R2.out.cells
      rw [hbv0] at c7
      clear hsim hs1 R2 B2 HR1 HR2
      go_wp2
      go_loopw [9] (fun i wr => ∃ n : Int, i = .int .i64 n ∧ -2147483648 ≤ n ∧ n ≤ 2147483648 ∧ Hid (FoR w0 w R ts ns vn va vb nv sa sv bs h.s l hi n tot g wr) ∧ Hid (wr.heap[w.heap.size]? = some (.cells (sarr h v1 v2 v3 v4 (.slice ua (slen l) uc)) 119 (0, 0)))) (fun i _ => (hi + 1 - RowKit.intOf i).toNat)
      case atStart => exact ⟨lo, rfl, wl1, by omega, L0.out, SK2.out⟩
      case round =>
        obtain ⟨n, rfl, hn1, hn2, hL, hSK⟩ := hrel
        clear L0 SK2 c7 hbv0
        obtain ⟨⟨g', st1, rs1, so1, bv1, en, ex, hR1, hF1, hway⟩, hkq, hsz⟩ := hL.out
        have HR := hid hR1
        have HF1 := hid hF1
        have XK := hid (And.intro hkq hsz)
        have HW := hid hway
        have hf4 := hF1.rb.f
        clear hR1 hF1 hkq hsz hway hL
        by_cases hcmp : n ≤ hi
        · go_wp2_with fail
          refine (l7Fuel_is hf4 wr HR.out).mono ?_
          rintro e w3 hw3
          have hw4 : (e = .returned (.bool false) ∧ ∃ en', QS w0 w3 R ts ns rs1 st1 en' (bs ++ ex) va vb nv sa sv so1 bv1 ∧ tot = (en', st1) ∧ KQ R w w3 ∧ w.heap.size ≤ w3.heap.size) ∨ (e = .returned (.bool true) ∧ ¬ st1.f = 0 ∧ QS w0 w3 R ts ns rs1 (burnt st1) 0 (bs ++ ex) va vb nv sa sv so1 bv1 ∧ KQ R wr w3 ∧ wr.heap.size ≤ w3.heap.size ∧ st1.f < g' ∧ g' ≤ g ∧ tot = exec ts ns g' bs (.inr (h.s, l, n, hi)) st1) := by
            rcases hw3 with ⟨he, e1, rfl⟩ | ⟨he, hz, e1, hq, hk, hs⟩ | ⟨he, hz, e1, hq, hk, hs⟩
            · refine .inl ⟨e1, en, HR.out, ?_, XK.out⟩
              rcases HW.out with ⟨h0, _⟩ | ⟨_, h1⟩
              · exact absurd h0 he
              · exact h1
            · refine .inl ⟨e1, 2, hq, ?_, XK.out.1.trans hk, Nat.le_trans XK.out.2 hs⟩
              rcases HW.out with ⟨_, h1, _, h2⟩ | ⟨h1, _⟩
              · obtain ⟨g2, rfl⟩ : ∃ k, g' = k + 1 := ⟨g' - 1, by omega⟩
                rw [h2, exec, if_neg (by omega), if_pos hz]
              · exact absurd he h1
            · rcases HW.out with ⟨_, h1, h2, h3⟩ | ⟨h1, _⟩
              · exact .inr ⟨e1, hz, hq, hk, hs, h1, h2, h3⟩
              · exact absurd he h1
          clear hw3
          rcases hw4 with ⟨rfl, en', hq, ht, hk3, hs3⟩ | ⟨rfl, hz, hq, hk3, hs3, hfg, hgg, htot⟩
          · have XR := hid hq
            have XT := hid ht
            have XK := hid (And.intro hk3 hs3)
            clear hq ht hk3 hs3 HR HW
            obtain ⟨ao, len, cap, hbv, hsrc, hcap, hsl⟩ := bindSrc XR.out.bd
            have hgB := XR.out.ge.2
            obtain ⟨_, _, _, _, _, c7, _, fz⟩ := XR.out.cells
            have f7 := fz 7
            clear fz
            rw [hbv] at c7
            have hbn := alloc_below w3 (.cells #[] 85)
            obtain ⟨v', W1, hrun, hown, hgr, hblk⟩ := appB (cap := cap) (own_new0 w3 hgB 85 2) (by have := hbn.size; omega) (hsrc.later hbn) hcap (by have := HBL.out; omega) 40
            rw [Nat.zero_add, List.nil_append] at hown
            have hb1 : Below w3.heap.size w3 W1 := hbn.grown hgr hbn.size (fun k hk => by injection hk with hk; subst hk; exact Nat.le_refl _)
            have R1 := XR.out.later hb1
            obtain ⟨_, _, _, _, _, _, _, fz⟩ := R1.cells
            have f71 := fz 7
            clear fz
            obtain ⟨a1, k1, hv1⟩ := ownShape hown
            subst hv1
            have T := hid (R1.binds hown)
            have HB1 := hid hb1
            have c7a := keeps hbn c7
            have c71 := keeps hb1 c7
            clear hown hgr hblk hb1 hbn R1 hgB
            go_wp2_with (refine wpList_appB rfl _ _ 40 _ _ _ rfl rfl rfl hrun ?_)
            go_end0
            exact ⟨rfl, _, _, _, (by rw [XT.out]; exact T.out.1), (XK.out.1.trans (KQ.of HB1.out)).trans T.out.2, by rw [World.size_setCell]; exact Nat.le_trans XK.out.2 HB1.out.size⟩
          · obtain ⟨g2, rfl⟩ : ∃ k, g' = k + 1 := ⟨g' - 1, by omega⟩
            have HZ := hid hz
            have HG := hid (And.intro hfg hgg)
            have HTT := hid htot
            have R3 := hid hq
            have K3 := hid (And.intro (XK.out.1.trans hk3) (Nat.le_trans XK.out.2 hs3))
            have hSK3 : Hid (w3.heap[w.heap.size]? = some (.cells (sarr h v1 v2 v3 v4 (.slice ua (slen l) uc)) 119 (0, 0))) := hk3 _ _ _ (by omega) (by decide) hSK.out
            clear hz hfg hgg htot hq hk3 hs3 hSK XK HR HW
            go_wp2_with fail
            go_cut [46] from 37 to 66 (fun v wx => v = .pointer (some ⟨R, 0, Option.none⟩) ∧ ∃ bv2, QS w0 wx R ts ns rs1 (burnt st1) 0 (bs ++ [⟨h.s, n⟩]) va vb nv sa sv so1 bv2 ∧ KQ R w3 wx ∧ w3.heap.size ≤ wx.heap.size)
            case first =>
              have bd : Below w3.heap.size w3 w3.drew := (Below.refl _ w3).drew
              have Rd := hid (R3.out.later bd)
              have Bd := hid bd
              have hSKd : Hid (w3.drew.heap[w.heap.size]? = some (.cells (sarr h v1 v2 v3 v4 (.slice ua (slen l) uc)) 119 (0, 0))) := (bd.block _ (lt_heap hSK3.out)).trans hSK3.out
              clear bd
              obtain ⟨W, hW⟩ : ∃ W, w3.drew = W := ⟨_, rfl⟩
              rw [hW] at Rd Bd hSKd
              obtain ⟨ao, len, cap, hbv, hsrc, hcap, hsl⟩ := bindSrc Rd.out.bd
              have HSRC := hid hsrc
              have HCAP := hid hcap
              obtain ⟨_, _, _, _, _, c7, _, _⟩ := Rd.out.cells
              rw [hbv] at c7
              have hge := Rd.out.ge.2
              refine wp_region_last (Lk2 R w.heap.size · (.slice ao len cap) h.s) 17 (by kernel_rfl) ?_
              rw [hW]
              have hS : Lk2 R w.heap.size W (.slice ao len cap) h.s := ⟨c7, (stmtCells hSKd.out).2⟩
              have LB := hid (Below.refl W.heap.size W)
              have hRW := lt_heap Rd.out.blk
              have hBW := lt_heap hSKd.out
              obtain ⟨i0, hi, hz0, hz1, hz2⟩ := info_parts infoBd
              have HI0 := hid (And.intro hi (And.intro hz0 (And.intro hz1 hz2)))
              clear hW hsrc hcap c7 hbv hSKd hi hz0 hz1 hz2
              refine wpAnyL_take (i := 0) (v := .pointer (some ⟨R, 0, Option.none⟩)) rfl (by kernel_rfl) (by kernel_rfl) (by kernel_rfl) (by kernel_rfl) (fun _ _ _ h => h) (Or.inl ⟨by rfl, ?ra0⟩) hS ?_
              case ra0 => intro w hSw; go_simp
              simp only [Act.put, zp]
              refine wpAnyL_take (i := 2) (v := .pointer (some ⟨R, 0, Option.none⟩)) rfl (by kernel_rfl) (by kernel_rfl) (by kernel_rfl) (by kernel_rfl) (fun _ _ _ h => h) (Or.inl ⟨by rfl, ?ra2⟩) hS ?_
              case ra2 => intro w hSw; go_simp
              simp only [Act.put, zp]
              refine wpAnyL_take (i := 3) (v := .pointer (some ⟨R, 0, Option.none⟩)) rfl (by kernel_rfl) (by kernel_rfl) (by kernel_rfl) (by kernel_rfl) (fun _ _ _ h => h) (Or.inl ⟨by rfl, ?ra3⟩) hS ?_
              case ra3 => intro w hSw; go_simp
              simp only [Act.put, zp]
              refine wpAnyL_take (i := 4) (v := .pointer (some ⟨R, 7, Option.none⟩)) rfl (by kernel_rfl) (by kernel_rfl) (by kernel_rfl) (by kernel_rfl) (fun _ _ _ h => h) (Or.inl ⟨by rfl, ?ra4⟩) hS ?_
              case ra4 => intro w hSw; go_simp
              simp only [Act.put, zp]
              refine wpAnyL_take (i := 5) (v := .slice ao len cap) rfl (by kernel_rfl) (by kernel_rfl) (by kernel_rfl) (by kernel_rfl) (fun _ _ _ h => h) (Or.inl ⟨by rfl, ?ra5⟩) hS ?_
              case ra5 => intro w hSw; have h1 := hSw.1; go_simp
              simp only [Act.put, zp]
              refine wpAnyL_take (i := 6) (v := .int .i64 (bs.length : Int)) rfl (by kernel_rfl) (by kernel_rfl) (by kernel_rfl) (by kernel_rfl) (fun _ _ _ h => h) (Or.inl ⟨by rfl, ?ra6⟩) hS ?_
              case ra6 => intro w hSw; go_simp
              simp only [Act.put, zp]
              refine wpAnyL_take (i := 7) (v := .slice ao bs.length cap) rfl (by kernel_rfl) (by kernel_rfl) (by kernel_rfl) (by kernel_rfl) (fun _ _ _ h => h) (Or.inl ⟨by rfl, ?ra7⟩) hS ?_
              case ra7 => intro w hSw; have h1 := hsl w; go_simp
              simp only [Act.put, zp]
              refine wpAnyL_take (i := 9) (v := .pointer (some ⟨w.heap.size, 1, Option.none⟩)) rfl (by kernel_rfl) (by kernel_rfl) (by kernel_rfl) (by kernel_rfl) (fun _ _ _ h => h) (Or.inl ⟨by rfl, ?ra9⟩) hS ?_
              case ra9 => intro w hSw; go_simp
              simp only [Act.put, zp]
              refine wpAnyL_take (i := 10) (v := .string h.s) rfl (by kernel_rfl) (by kernel_rfl) (by kernel_rfl) (by kernel_rfl) (fun _ _ _ h => h) (Or.inl ⟨by rfl, ?ra10⟩) hS ?_
              case ra10 => intro w hSw; have h1 := hSw.2; go_simp
              simp only [Act.put, zp]
              refine wpAnyL_take (i := 11) (v := .int .i64 n) rfl (by kernel_rfl) (by kernel_rfl) (by kernel_rfl) (by kernel_rfl) (fun _ _ _ h => h) (Or.inl ⟨by rfl, ?ra11⟩) hS ?_
              case ra11 => intro w hSw; go_simp
              simp only [Act.put, zp]
              refine wpAnyL_take (i := 12) (v := .agg #[.string h.s, .int .i64 n]) rfl (by kernel_rfl) (by kernel_rfl) (by kernel_rfl) (by kernel_rfl) (fun _ _ _ h => h) (Or.inl ⟨by rfl, ?ra12⟩) hS ?_
              case ra12 => intro w hSw; go_simp
              simp only [Act.put, zp]
              refine wpAnyL_ready (rs := [1, 13]) (by kernel_rfl) (by simp) ?_
              refine AllReadyL.cons rfl (fun K hK => ?_) (AllReadyL.cons rfl (fun K hK => ?_) AllReadyL.nil)
              · rw [if_pos (by rfl)]
                simp only [zq]
                go_wp2_with fail
                have hb := alloc_below W (.cells #[] 85)
                refine hK.out _ _ (fun _ => ⟨keeps hb hS.1, keeps hb hS.2⟩) ?_
                have hS2 := And.intro (keeps hb hS.1) (keeps hb hS.2)
                have O := hid (own_new0 W hge 85 2)
                have LB2 := hid (LB.out.trans (hb.mono LB.out.size))
                have hz2 : Hid ((W.alloc (.cells #[] 85)).heap.size = W.heap.size + 1) := World.size_alloc _ _
                obtain ⟨W1, hY⟩ : ∃ W1, W.alloc (.cells #[] 85) = W1 := ⟨_, rfl⟩
                rw [hY] at hS2 O LB2 hz2 ⊢
                obtain ⟨go, hgo⟩ : ∃ go, W.heap.size = go := ⟨_, rfl⟩
                have HGO := hid hgo
                rw [hgo] at O hz2 ⊢
                clear hgo
                have hge1 : w0.heap.size ≤ W1.heap.size := by have := hz2.out; have := HGO.out; omega
                have hgo2 : W.heap.size ≤ go := by have := LB.out.size; have := HGO.out; omega
                clear hK hY hb hS LB
                have hS := hS2
                have LB := LB2
                clear hS2 LB2
                refine wpAnyL_ready (rs := [8, 13]) (by kernel_rfl) (by simp) ?_
                refine AllReadyL.cons rfl (fun K hK => ?_) (AllReadyL.cons rfl (fun K hK => ?_) AllReadyL.nil)
                · rw [if_pos (by rfl)]
                  simp only [zq]
                  obtain ⟨v1, W2, hrun, hown, hgr, hblk⟩ := appB (cap := cap) O.out hge1 (HSRC.out.later (LB.out)) HCAP.out (by have := HBL0.out; omega) 40
                  rw [Nat.zero_add, List.nil_append] at hown
                  obtain ⟨a1, k1, rfl⟩ := ownShape hown
                  have hb : Below W.heap.size W1 W2 := (Below.refl _ _).grown hgr LB.out.size (fun k hk => by have h9 : go = k := (by simpa [Value.ownBlock] using hk); omega)
                  have hS2 : Lk2 R w.heap.size W2 (.slice ao len cap) h.s := ⟨(hb.cell (p := ⟨R, 7, Option.none⟩) hRW).trans hS.1, (hb.cell (p := ⟨w.heap.size, 1, Option.none⟩) hBW).trans hS.2⟩
                  refine wp_appB _ _ 40 _ _ _ (by rfl) (by rfl) (by rfl) hrun ?_
                  refine hK.out _ _ (fun _ => hS2) ?_
                  have LB2 := hid (LB.out.trans hb)
                  have O2 := hid hown
                  have HBK : Hid (∀ g, (Value.slice a1 bs.length k1).ownBlock = some g → W.heap.size ≤ g) := fun g hg => by
                    rcases hblk g hg with e | e
                    · have : go = g := by simpa [Value.ownBlock] using e
                      omega
                    · have := LB.out.size; omega
                  have hge2 : w0.heap.size ≤ W2.heap.size := by have := hgr.size; omega
                  clear hK hS LB hrun hown hgr hblk hb O hge1
                  have hS := hS2
                  have LB := LB2
                  have O := O2
                  have hge1 := hge2
                  clear hS2 LB2 O2 hge2
                  refine wpAnyL_ready (rs := [13]) (by kernel_rfl) (by simp) ?_
                  refine AllReadyL.cons rfl (fun K hK => ?_) AllReadyL.nil
                  rw [if_pos (by rfl)]
                  simp only [zq]
                  go_wp2_with fail
                  have hb := alloc_below W2 (.cells #[.string h.s, .int .i64 n] 85)
                  refine hK.out _ _ (fun _ => ⟨keeps hb hS.1, keeps hb hS.2⟩) ?_
                  have hS2 := And.intro (keeps hb hS.1) (keeps hb hS.2)
                  have EL : Hid (∀ (j : Nat) (u : Value), [.string h.s, .int .i64 n][j]? = some u → (W2.alloc (.cells #[.string h.s, .int .i64 n] 85)).cell? ((⟨W2.heap.size, 0, Option.none⟩ : Addr).add j) = some u) := World.news_of_block (cs := #[.string h.s, .int .i64 n]) (blkLast _ _)
                  have LB2 := hid (LB.out.trans (hb.mono LB.out.size))
                  have hz3 : Hid ((W2.alloc (.cells #[.string h.s, .int .i64 n] 85)).heap.size = W2.heap.size + 1) := World.size_alloc _ _
                  have O2 := hid (ownB O.out hb)
                  obtain ⟨W3, hY⟩ : ∃ W3, W2.alloc (.cells #[.string h.s, .int .i64 n] 85) = W3 := ⟨_, rfl⟩
                  rw [hY] at hS2 EL LB2 hz3 O2 ⊢
                  obtain ⟨ge, hgee⟩ : ∃ ge, W2.heap.size = ge := ⟨_, rfl⟩
                  have HGE := hid hgee
                  rw [hgee] at EL hz3 ⊢
                  clear hgee
                  have hge2 : w0.heap.size ≤ W3.heap.size := by have := hz3.out; have := HGE.out; omega
                  clear hge1
                  have hge1 := hge2
                  clear hge2 hK hY hb hS LB O
                  have hS := hS2
                  have LB := LB2
                  clear hS2 LB2
                  have O := O2
                  clear O2
                  refine wpAnyL_ready (rs := [14]) (by kernel_rfl) (by simp) ?_
                  refine AllReadyL.cons rfl (fun K hK => ?_) AllReadyL.nil
                  rw [if_pos (by rfl)]
                  simp only [zq]
                  refine wp_append_lies _ _ _ 40 (by rfl) w0.heap.size 85 i0 _ 2 24 Tryz.underlying40 HI0.out.1 HI0.out.2.1 HI0.out.2.2.1 HI0.out.2.2.2 rfl (by decide) _ bs.length (acells bs) (by rfl) O.out ⟨ge, 0, Option.none⟩ 1 1 [.string h.s, .int .i64 n] (by rfl) (by rfl) EL.out (by intro u hu; simp at hu; rcases hu with rfl | rfl <;> rfl) (by decide) (by have := HBL0.out; unfold maxLen; omega) (by have := HBL0.out; omega) hge1 W3.heap.size rfl ?_
                  intro g c4 W4 hown hgr hat hlt
                  have hb : Below W.heap.size W3 W4 := (Below.refl _ _).grown hgr LB.out.size (fun k hk => HBK.out k hk)
                  have hS2 : Lk2 R w.heap.size W4 (.slice ao len cap) h.s := ⟨(hb.cell (p := ⟨R, 7, Option.none⟩) hRW).trans hS.1, (hb.cell (p := ⟨w.heap.size, 1, Option.none⟩) hBW).trans hS.2⟩
                  refine hK.out _ _ (fun _ => hS2) ?_
                  have LB4 := hid (LB.out.trans hb)
                  have RD := hid (Rd.out.later LB4.out)
                  have c7 := hS2.1
                  obtain ⟨_, _, _, _, _, _, _, fz⟩ := RD.out.cells
                  have f7 := fz 7
                  have T := hid (RD.out.binds (bs' := bs ++ [⟨h.s, n⟩]) (bv' := .slice (some ⟨g, 0, Option.none⟩) (bs.length + 1) c4) (by rw [List.length_append, acells_snoc]; exact hown))
                  clear fz hK hown hgr hat hlt hb hS LB O EL HBK
                  refine wpAnyL_take (i := 15) (v := .pointer (some ⟨R, 0, Option.none⟩)) rfl (by kernel_rfl) (by kernel_rfl) (by kernel_rfl) (by kernel_rfl) (fun _ _ _ h => h) (Or.inl ⟨by rfl, ?rb15⟩) hS2 ?_
                  case rb15 => intro w hSw; go_simp
                  simp only [Act.put, zp]
                  refine wpAnyL_take (i := 16) (v := .pointer (some ⟨R, 7, Option.none⟩)) rfl (by kernel_rfl) (by kernel_rfl) (by kernel_rfl) (by kernel_rfl) (fun _ _ _ h => h) (Or.inl ⟨by rfl, ?rb16⟩) hS2 ?_
                  case rb16 => intro w hSw; go_simp
                  simp only [Act.put, zp]
                  clear hS2
                  refine wpAnyL_ready (rs := [17]) (by kernel_rfl) (by simp) ?_
                  refine AllReadyL.cons rfl (fun K hK => ?_) AllReadyL.nil
                  rw [if_pos (by rfl)]
                  simp only [zq]
                  go_wp2_with fail
                  refine hK.out _ _ (fun e => absurd rfl e) ?_
                  clear hK
                  refine wpAnyL_done (by kernel_rfl) ?_ _
                  go_wp2_with fail
                  go_meet
                  exact ⟨rfl, _, T.out.1, (KQ.of (Bd.out.trans (LB4.out.mono Bd.out.size))).trans T.out.2, by rw [World.size_setCell]; exact Nat.le_trans Bd.out.size LB4.out.size⟩
                · rw [if_pos (by rfl)]
                  simp only [zq]
                  go_wp2_with fail
                  have hb := alloc_below W1 (.cells #[.string h.s, .int .i64 n] 85)
                  refine hK.out _ _ (fun _ => ⟨keeps hb hS.1, keeps hb hS.2⟩) ?_
                  have hS2 := And.intro (keeps hb hS.1) (keeps hb hS.2)
                  have EL : Hid (∀ (j : Nat) (u : Value), [.string h.s, .int .i64 n][j]? = some u → (W1.alloc (.cells #[.string h.s, .int .i64 n] 85)).cell? ((⟨W1.heap.size, 0, Option.none⟩ : Addr).add j) = some u) := World.news_of_block (cs := #[.string h.s, .int .i64 n]) (blkLast _ _)
                  have LB2 := hid (LB.out.trans (hb.mono LB.out.size))
                  have hz3 : Hid ((W1.alloc (.cells #[.string h.s, .int .i64 n] 85)).heap.size = W1.heap.size + 1) := World.size_alloc _ _
                  have O2 := hid (ownB O.out hb)
                  obtain ⟨W2, hY⟩ : ∃ W2, W1.alloc (.cells #[.string h.s, .int .i64 n] 85) = W2 := ⟨_, rfl⟩
                  rw [hY] at hS2 EL LB2 hz3 O2 ⊢
                  obtain ⟨ge, hgee⟩ : ∃ ge, W1.heap.size = ge := ⟨_, rfl⟩
                  have HGE := hid hgee
                  rw [hgee] at EL hz3 ⊢
                  clear hgee
                  have hge2 : w0.heap.size ≤ W2.heap.size := by have := hz3.out; have := HGE.out; omega
                  clear hge1
                  have hge1 := hge2
                  clear hge2 hK hY hb hS LB O
                  have hS := hS2
                  have LB := LB2
                  clear hS2 LB2
                  have O := O2
                  clear O2
                  refine wpAnyL_ready (rs := [8]) (by kernel_rfl) (by simp) ?_
                  refine AllReadyL.cons rfl (fun K hK => ?_) AllReadyL.nil
                  rw [if_pos (by rfl)]
                  simp only [zq]
                  obtain ⟨v1, W3, hrun, hown, hgr, hblk⟩ := appB (cap := cap) O.out hge1 (HSRC.out.later (LB.out)) HCAP.out (by have := HBL0.out; omega) 40
                  rw [Nat.zero_add, List.nil_append] at hown
                  obtain ⟨a1, k1, rfl⟩ := ownShape hown
                  have hb : Below W.heap.size W2 W3 := (Below.refl _ _).grown hgr LB.out.size (fun k hk => by have h9 : go = k := (by simpa [Value.ownBlock] using hk); omega)
                  have hS2 : Lk2 R w.heap.size W3 (.slice ao len cap) h.s := ⟨(hb.cell (p := ⟨R, 7, Option.none⟩) hRW).trans hS.1, (hb.cell (p := ⟨w.heap.size, 1, Option.none⟩) hBW).trans hS.2⟩
                  refine wp_appB _ _ 40 _ _ _ (by rfl) (by rfl) (by rfl) hrun ?_
                  refine hK.out _ _ (fun _ => hS2) ?_
                  have LB2 := hid (LB.out.trans hb)
                  have O2 := hid hown
                  have HBK : Hid (∀ g, (Value.slice a1 bs.length k1).ownBlock = some g → W.heap.size ≤ g) := fun g hg => by
                    rcases hblk g hg with e | e
                    · have : go = g := by simpa [Value.ownBlock] using e
                      omega
                    · have := LB.out.size; omega
                  have hge2 : w0.heap.size ≤ W3.heap.size := by have := hgr.size; omega
                  have E2 : Hid (∀ (j : Nat) (u : Value), [.string h.s, .int .i64 n][j]? = some u → W3.cell? ((⟨ge, 0, Option.none⟩ : Addr).add j) = some u) := fun j u hu => by
                    have h1 := EL.out j u hu
                    have ej : ((⟨ge, 0, Option.none⟩ : Addr).add j) = ⟨ge, j, Option.none⟩ := by simp [Addr.add]; omega
                    rw [ej] at h1 ⊢
                    exact (World.grownBy.cell_far hgr _ (lt_of_cellA h1) (by intro e; have h9 : ge = go := (by simpa [Value.ownBlock] using e); have := HGO.out; have := HGE.out; have := hz2.out; have := hz3.out; omega)).trans h1
                  clear EL
                  have EL := E2
                  clear E2
                  clear hK hS LB hrun hown hgr hblk hb O hge1
                  have hS := hS2
                  have LB := LB2
                  have O := O2
                  have hge1 := hge2
                  clear hS2 LB2 O2 hge2
                  refine wpAnyL_ready (rs := [14]) (by kernel_rfl) (by simp) ?_
                  refine AllReadyL.cons rfl (fun K hK => ?_) AllReadyL.nil
                  rw [if_pos (by rfl)]
                  simp only [zq]
                  refine wp_append_lies _ _ _ 40 (by rfl) w0.heap.size 85 i0 _ 2 24 Tryz.underlying40 HI0.out.1 HI0.out.2.1 HI0.out.2.2.1 HI0.out.2.2.2 rfl (by decide) _ bs.length (acells bs) (by rfl) O.out ⟨ge, 0, Option.none⟩ 1 1 [.string h.s, .int .i64 n] (by rfl) (by rfl) EL.out (by intro u hu; simp at hu; rcases hu with rfl | rfl <;> rfl) (by decide) (by have := HBL0.out; unfold maxLen; omega) (by have := HBL0.out; omega) hge1 W3.heap.size rfl ?_
                  intro g c4 W4 hown hgr hat hlt
                  have hb : Below W.heap.size W3 W4 := (Below.refl _ _).grown hgr LB.out.size (fun k hk => HBK.out k hk)
                  have hS2 : Lk2 R w.heap.size W4 (.slice ao len cap) h.s := ⟨(hb.cell (p := ⟨R, 7, Option.none⟩) hRW).trans hS.1, (hb.cell (p := ⟨w.heap.size, 1, Option.none⟩) hBW).trans hS.2⟩
                  refine hK.out _ _ (fun _ => hS2) ?_
                  have LB4 := hid (LB.out.trans hb)
                  have RD := hid (Rd.out.later LB4.out)
                  have c7 := hS2.1
                  obtain ⟨_, _, _, _, _, _, _, fz⟩ := RD.out.cells
                  have f7 := fz 7
                  have T := hid (RD.out.binds (bs' := bs ++ [⟨h.s, n⟩]) (bv' := .slice (some ⟨g, 0, Option.none⟩) (bs.length + 1) c4) (by rw [List.length_append, acells_snoc]; exact hown))
                  clear fz hK hown hgr hat hlt hb hS LB O EL HBK
                  refine wpAnyL_take (i := 15) (v := .pointer (some ⟨R, 0, Option.none⟩)) rfl (by kernel_rfl) (by kernel_rfl) (by kernel_rfl) (by kernel_rfl) (fun _ _ _ h => h) (Or.inl ⟨by rfl, ?rb15⟩) hS2 ?_
                  case rb15 => intro w hSw; go_simp
                  simp only [Act.put, zp]
                  refine wpAnyL_take (i := 16) (v := .pointer (some ⟨R, 7, Option.none⟩)) rfl (by kernel_rfl) (by kernel_rfl) (by kernel_rfl) (by kernel_rfl) (fun _ _ _ h => h) (Or.inl ⟨by rfl, ?rb16⟩) hS2 ?_
                  case rb16 => intro w hSw; go_simp
                  simp only [Act.put, zp]
                  clear hS2
                  refine wpAnyL_ready (rs := [17]) (by kernel_rfl) (by simp) ?_
                  refine AllReadyL.cons rfl (fun K hK => ?_) AllReadyL.nil
                  rw [if_pos (by rfl)]
                  simp only [zq]
                  go_wp2_with fail
                  refine hK.out _ _ (fun e => absurd rfl e) ?_
                  clear hK
                  refine wpAnyL_done (by kernel_rfl) ?_ _
                  go_wp2_with fail
                  go_meet
                  exact ⟨rfl, _, T.out.1, (KQ.of (Bd.out.trans (LB4.out.mono Bd.out.size))).trans T.out.2, by rw [World.size_setCell]; exact Nat.le_trans Bd.out.size LB4.out.size⟩
              · rw [if_pos (by rfl)]
                simp only [zq]
                go_wp2_with fail
                have hb := alloc_below W (.cells #[.string h.s, .int .i64 n] 85)
                refine hK.out _ _ (fun _ => ⟨keeps hb hS.1, keeps hb hS.2⟩) ?_
                have hS2 := And.intro (keeps hb hS.1) (keeps hb hS.2)
                have EL : Hid (∀ (j : Nat) (u : Value), [.string h.s, .int .i64 n][j]? = some u → (W.alloc (.cells #[.string h.s, .int .i64 n] 85)).cell? ((⟨W.heap.size, 0, Option.none⟩ : Addr).add j) = some u) := World.news_of_block (cs := #[.string h.s, .int .i64 n]) (blkLast _ _)
                have LB2 := hid (LB.out.trans (hb.mono LB.out.size))
                have hz3 : Hid ((W.alloc (.cells #[.string h.s, .int .i64 n] 85)).heap.size = W.heap.size + 1) := World.size_alloc _ _
                obtain ⟨W1, hY⟩ : ∃ W1, W.alloc (.cells #[.string h.s, .int .i64 n] 85) = W1 := ⟨_, rfl⟩
                rw [hY] at hS2 EL LB2 hz3 ⊢
                obtain ⟨ge, hgee⟩ : ∃ ge, W.heap.size = ge := ⟨_, rfl⟩
                have HGE := hid hgee
                rw [hgee] at EL hz3 ⊢
                clear hgee
                have hge2 : w0.heap.size ≤ W1.heap.size := by have := hz3.out; have := HGE.out; omega
                clear hge
                have hge := hge2
                clear hge2 hK hY hb hS LB
                have hS := hS2
                have LB := LB2
                clear hS2 LB2
                refine wpAnyL_ready (rs := [1]) (by kernel_rfl) (by simp) ?_
                refine AllReadyL.cons rfl (fun K hK => ?_) AllReadyL.nil
                rw [if_pos (by rfl)]
                simp only [zq]
                go_wp2_with fail
                have hb := alloc_below W1 (.cells #[] 85)
                refine hK.out _ _ (fun _ => ⟨keeps hb hS.1, keeps hb hS.2⟩) ?_
                have hS2 := And.intro (keeps hb hS.1) (keeps hb hS.2)
                have O := hid (own_new0 W1 hge 85 2)
                have LB2 := hid (LB.out.trans (hb.mono LB.out.size))
                have hz2 : Hid ((W1.alloc (.cells #[] 85)).heap.size = W1.heap.size + 1) := World.size_alloc _ _
                have E2 : Hid (∀ (j : Nat) (u : Value), [.string h.s, .int .i64 n][j]? = some u → (W1.alloc (.cells #[] 85)).cell? ((⟨ge, 0, Option.none⟩ : Addr).add j) = some u) := fun j u hu => keeps hb (EL.out j u hu)
                obtain ⟨W2, hY⟩ : ∃ W2, W1.alloc (.cells #[] 85) = W2 := ⟨_, rfl⟩
                rw [hY] at hS2 O LB2 hz2 E2 ⊢
                obtain ⟨go, hgo⟩ : ∃ go, W1.heap.size = go := ⟨_, rfl⟩
                have HGO := hid hgo
                rw [hgo] at O hz2 ⊢
                clear hgo
                have hge1 : w0.heap.size ≤ W2.heap.size := by have := hz2.out; have := HGO.out; omega
                have hgo2 : W.heap.size ≤ go := by have := LB.out.size; have := HGO.out; omega
                clear hK hY hb hS LB EL
                have hS := hS2
                have LB := LB2
                clear hS2 LB2
                have EL := E2
                clear E2
                refine wpAnyL_ready (rs := [8]) (by kernel_rfl) (by simp) ?_
                refine AllReadyL.cons rfl (fun K hK => ?_) AllReadyL.nil
                rw [if_pos (by rfl)]
                simp only [zq]
                obtain ⟨v1, W3, hrun, hown, hgr, hblk⟩ := appB (cap := cap) O.out hge1 (HSRC.out.later (LB.out)) HCAP.out (by have := HBL0.out; omega) 40
                rw [Nat.zero_add, List.nil_append] at hown
                obtain ⟨a1, k1, rfl⟩ := ownShape hown
                have hb : Below W.heap.size W2 W3 := (Below.refl _ _).grown hgr LB.out.size (fun k hk => by have h9 : go = k := (by simpa [Value.ownBlock] using hk); omega)
                have hS2 : Lk2 R w.heap.size W3 (.slice ao len cap) h.s := ⟨(hb.cell (p := ⟨R, 7, Option.none⟩) hRW).trans hS.1, (hb.cell (p := ⟨w.heap.size, 1, Option.none⟩) hBW).trans hS.2⟩
                refine wp_appB _ _ 40 _ _ _ (by rfl) (by rfl) (by rfl) hrun ?_
                refine hK.out _ _ (fun _ => hS2) ?_
                have LB2 := hid (LB.out.trans hb)
                have O2 := hid hown
                have HBK : Hid (∀ g, (Value.slice a1 bs.length k1).ownBlock = some g → W.heap.size ≤ g) := fun g hg => by
                  rcases hblk g hg with e | e
                  · have : go = g := by simpa [Value.ownBlock] using e
                    omega
                  · have := LB.out.size; omega
                have hge2 : w0.heap.size ≤ W3.heap.size := by have := hgr.size; omega
                have E2 : Hid (∀ (j : Nat) (u : Value), [.string h.s, .int .i64 n][j]? = some u → W3.cell? ((⟨ge, 0, Option.none⟩ : Addr).add j) = some u) := fun j u hu => by
                  have h1 := EL.out j u hu
                  have ej : ((⟨ge, 0, Option.none⟩ : Addr).add j) = ⟨ge, j, Option.none⟩ := by simp [Addr.add]; omega
                  rw [ej] at h1 ⊢
                  exact (World.grownBy.cell_far hgr _ (lt_of_cellA h1) (by intro e; have h9 : ge = go := (by simpa [Value.ownBlock] using e); have := HGO.out; have := HGE.out; have := hz2.out; have := hz3.out; omega)).trans h1
                clear EL
                have EL := E2
                clear E2
                clear hK hS LB hrun hown hgr hblk hb O hge1
                have hS := hS2
                have LB := LB2
                have O := O2
                have hge1 := hge2
                clear hS2 LB2 O2 hge2
                refine wpAnyL_ready (rs := [14]) (by kernel_rfl) (by simp) ?_
                refine AllReadyL.cons rfl (fun K hK => ?_) AllReadyL.nil
                rw [if_pos (by rfl)]
                simp only [zq]
                refine wp_append_lies _ _ _ 40 (by rfl) w0.heap.size 85 i0 _ 2 24 Tryz.underlying40 HI0.out.1 HI0.out.2.1 HI0.out.2.2.1 HI0.out.2.2.2 rfl (by decide) _ bs.length (acells bs) (by rfl) O.out ⟨ge, 0, Option.none⟩ 1 1 [.string h.s, .int .i64 n] (by rfl) (by rfl) EL.out (by intro u hu; simp at hu; rcases hu with rfl | rfl <;> rfl) (by decide) (by have := HBL0.out; unfold maxLen; omega) (by have := HBL0.out; omega) hge1 W3.heap.size rfl ?_
                intro g c4 W4 hown hgr hat hlt
                have hb : Below W.heap.size W3 W4 := (Below.refl _ _).grown hgr LB.out.size (fun k hk => HBK.out k hk)
                have hS2 : Lk2 R w.heap.size W4 (.slice ao len cap) h.s := ⟨(hb.cell (p := ⟨R, 7, Option.none⟩) hRW).trans hS.1, (hb.cell (p := ⟨w.heap.size, 1, Option.none⟩) hBW).trans hS.2⟩
                refine hK.out _ _ (fun _ => hS2) ?_
                have LB4 := hid (LB.out.trans hb)
                have RD := hid (Rd.out.later LB4.out)
                have c7 := hS2.1
                obtain ⟨_, _, _, _, _, _, _, fz⟩ := RD.out.cells
                have f7 := fz 7
                have T := hid (RD.out.binds (bs' := bs ++ [⟨h.s, n⟩]) (bv' := .slice (some ⟨g, 0, Option.none⟩) (bs.length + 1) c4) (by rw [List.length_append, acells_snoc]; exact hown))
                clear fz hK hown hgr hat hlt hb hS LB O EL HBK
                refine wpAnyL_take (i := 15) (v := .pointer (some ⟨R, 0, Option.none⟩)) rfl (by kernel_rfl) (by kernel_rfl) (by kernel_rfl) (by kernel_rfl) (fun _ _ _ h => h) (Or.inl ⟨by rfl, ?rb15⟩) hS2 ?_
                case rb15 => intro w hSw; go_simp
                simp only [Act.put, zp]
                refine wpAnyL_take (i := 16) (v := .pointer (some ⟨R, 7, Option.none⟩)) rfl (by kernel_rfl) (by kernel_rfl) (by kernel_rfl) (by kernel_rfl) (fun _ _ _ h => h) (Or.inl ⟨by rfl, ?rb16⟩) hS2 ?_
                case rb16 => intro w hSw; go_simp
                simp only [Act.put, zp]
                clear hS2
                refine wpAnyL_ready (rs := [17]) (by kernel_rfl) (by simp) ?_
                refine AllReadyL.cons rfl (fun K hK => ?_) AllReadyL.nil
                rw [if_pos (by rfl)]
                simp only [zq]
                go_wp2_with fail
                refine hK.out _ _ (fun e => absurd rfl e) ?_
                clear hK
                refine wpAnyL_done (by kernel_rfl) ?_ _
                go_wp2_with fail
                go_meet
                exact ⟨rfl, _, T.out.1, (KQ.of (Bd.out.trans (LB4.out.mono Bd.out.size))).trans T.out.2, by rw [World.size_setCell]; exact Nat.le_trans Bd.out.size LB4.out.size⟩
            case rest =>
              obtain ⟨rfl, bv2, hq4, hk4, hs4⟩ := hcut
              have R4 := hid hq4
              have K4 := hid (And.intro (K3.out.1.trans hk4) (Nat.le_trans K3.out.2 hs4))
              have hSK4 : Hid (wc.heap[w.heap.size]? = some (.cells (sarr h v1 v2 v3 v4 (.slice ua (slen l) uc)) 119 (0, 0))) := hk4 _ _ _ (by omega) (by decide) hSK3.out
              have c18 := (stmtCells hSK4.out).1
              clear hq4 hk4 hs4 R3 K3 hSK3
              have hwn : wd n := ⟨hn1, by omega⟩
              have FB := HF1.out.burn HZ.out
              have hfb : (burnt st1).f < g2 := by have h1 := HG.out.1; have h2 := HZ.out; show st1.f - 1 < g2; omega
              go_wp2_with fail
              refine (HI.out g2 (by have := HG.out.2; omega) l (bs ++ [⟨h.s, n⟩]) (burnt st1) rs1 so1 bv2 wc (.slice ua (slen l) uc) HL.out.1 HL.out.2 (by rw [List.length_append]; simpa using HBL.out) (FB.1.bind ⟨h.s, n⟩ hwn) hfb R4.out HU.out).mono ?_
              rintro e w6 ⟨rfl, rs6, so6, bv6, hR6, hk6, hs6⟩
              have FX := hid (exec_fine g2 (bs ++ [⟨h.s, n⟩]) (.inl l) (burnt st1) HL.out.1 (FB.1.bind ⟨h.s, n⟩ hwn))
              have LX := (exec_like ts ns g2 (bs ++ [⟨h.s, n⟩]) (.inl l) (burnt st1)).f
              have TX : Hid (tot = andThen (exec ts ns g2 (bs ++ [⟨h.s, n⟩]) (.inl l) (burnt st1)) fun s' => exec ts ns g2 bs (.inr (h.s, l, n + 1, hi)) s') := by
                show _ = _
                rw [HTT.out, exec, if_neg (by omega), if_neg HZ.out]
              obtain ⟨rr, hrr⟩ : ∃ rr, exec ts ns g2 (bs ++ [⟨h.s, n⟩]) (.inl l) (burnt st1) = rr := ⟨_, rfl⟩
              rw [hrr] at hR6 FX LX TX
              have LXX : Hid (rr.2.f < g2) := show _ < _ by omega
              have R6 := hid hR6
              have K6 := hid (And.intro (K4.out.1.trans hk6) (Nat.le_trans K4.out.2 hs6))
              have hSK6 : Hid (w6.heap[w.heap.size]? = some (.cells (sarr h v1 v2 v3 v4 (.slice ua (slen l) uc)) 119 (0, 0))) := hk6 _ _ _ (by omega) (by decide) hSK4.out
              have WAY : Hid ((rr.1 = 0 ∧ rr.2.f < g2 ∧ g2 ≤ g ∧ tot = exec ts ns g2 bs (.inr (h.s, l, n + 1, hi)) rr.2) ∨ (¬ rr.1 = 0 ∧ tot = (rr.1, rr.2))) := by
                by_cases h0 : rr.1 = 0
                · exact .inl ⟨h0, LXX.out, by have := HG.out.2; omega, by rw [TX.out, andThen, if_pos h0]⟩
                · exact .inr ⟨h0, by rw [TX.out, andThen, if_neg h0]⟩
              clear hrr hfb FB LX hR6 hk6 hs6 c18 R4 K4 hSK4
              go_wp2
              go_roundw
              case measure => simp [RowKit.intOf]; omega
              case rel => exact ⟨n + 1, rfl, by omega, by omega, ⟨⟨g2, rr.2, rs6, so6, bv6, rr.1, [⟨h.s, n⟩], R6.out, HF1.out.unbind FX.out, WAY.out⟩, K6.out.1, K6.out.2⟩, hSK6.out⟩
        · have hx : QS w0 wr R ts ns rs1 st1 en (bs ++ ex) va vb nv sa sv so1 bv1 ∧ tot = (en, st1) := ⟨HR.out, by
            rcases HW.out with ⟨h0, h1, h2, h3⟩ | ⟨_, h1⟩
            · obtain ⟨g2, rfl⟩ : ∃ k, g' = k + 1 := ⟨g' - 1, by omega⟩
              rw [h3, exec, if_pos (by omega), h0]
            · exact h1⟩
          have XR := hid hx.1
          have XT := hid hx.2
          clear hx HR HW
          obtain ⟨ao, len, cap, hbv, hsrc, hcap, hsl⟩ := bindSrc XR.out.bd
          have hgB := XR.out.ge.2
          obtain ⟨_, _, _, _, _, c7, _, fz⟩ := XR.out.cells
          have f7 := fz 7
          clear fz
          rw [hbv] at c7
          have hbn := alloc_below wr (.cells #[] 85)
          obtain ⟨v', W1, hrun, hown, hgr, hblk⟩ := appB (cap := cap) (own_new0 wr hgB 85 2) (by have := hbn.size; omega) (hsrc.later hbn) hcap (by have := HBL.out; omega) 40
          rw [Nat.zero_add, List.nil_append] at hown
          have hb1 : Below wr.heap.size wr W1 := hbn.grown hgr hbn.size (fun k hk => by injection hk with hk; subst hk; exact Nat.le_refl _)
          have R1 := XR.out.later hb1
          obtain ⟨_, _, _, _, _, _, _, fz⟩ := R1.cells
          have f71 := fz 7
          clear fz
          obtain ⟨a1, k1, hv1⟩ := ownShape hown
          subst hv1
          have T := hid (R1.binds hown)
          have HB1 := hid hb1
          have c7a := keeps hbn c7
          have c71 := keeps hb1 c7
          clear hown hgr hblk hb1 hbn R1 hgB
          go_wp2_with (refine wpList_appB rfl _ _ 40 _ _ _ rfl rfl rfl hrun ?_)
          go_end0
          exact ⟨rfl, _, _, _, (by rw [XT.out]; exact T.out.1), (XK.out.1.trans (KQ.of HB1.out)).trans T.out.2, by rw [World.size_setCell]; exact Nat.le_trans XK.out.2 HB1.out.size⟩
end Go.Proofs.YtfoghiminlbdaaaGreat
