/-
  Texts in one: RunLoop, RunStmt, EvTopS, RunSpec, RunSpecP.
-/
import Derived.Test.YtfoghiminlbdaaaGreatZp
import Derived.Test.YtfoghiminlbdaaaGreatP13ofRun
import Derived.Test.YtfoghiminlbdaaaGreatP12ofRun
import Derived.Test.YtfoghiminlbdaaaGreatP11ofRun
import Derived.Test.YtfoghiminlbdaaaGreatP23ofRun
namespace Go.Proofs.YtfoghiminlbdaaaGreat
open Go.RowKit Go.Lib
set_option linter.unusedSimpArgs false
set_option linter.unusedVariables false
def StmtsC (w0 : World) (R : Nat) (ts : List AR) (ns : List ByteArray) (vn : Nat) (va vb nv sa sv : Value) (g : Nat) : Prop :=
  ∀ (F : SF) (bs : List AR) (fv : Value) (JJ : World → Prop) (st : St) (rs : List VR) (so : Value) (w : World) (u : Value), rdyF ns vn F → snodes F ≤ 1048576 → NmC R ns nv sv fv bs JJ → Fine ts ns vn bs st → st.f < g → RS w0 w R ts ns rs st va vb nv sa sv so → JJ w → SV w0 0 F u →
    Calls Tryz.prog 35 #[.pointer (some ⟨R, 0, Option.none⟩), u, fv] w (SimR w0 R ts ns va vb nv sa sv w (exec ts ns g bs (.inl F) st))
theorem stmtCells {W : World} {N : Nat} {h : SH} {v1 v2 v3 v4 u : Value} (k : W.heap[N]? = some (.cells (sarr h v1 v2 v3 v4 u) 119 (0, 0))) : W.cell? ⟨N, 18, Option.none⟩ = some u ∧ W.cell? ⟨N, 1, Option.none⟩ = some (.string h.s) := by
  have r : W.rangeAt N 0 (scells h v1 v2 v3 v4 u) := blk_range (arr := sarr h v1 v2 v3 v4 u) k
  have a := r 18 _ rfl
  have b := r 1 _ rfl
  rw [Nat.zero_add] at a b
  exact ⟨a, b⟩
theorem boxX3 {w : World} {N : Nat} {h : SH} {v1 v2 v3 v4 u : Value} (r : w.rangeAt N 0 (scells h v1 v2 v3 v4 u)) : w.rangeAt N 10 [.int .i64 h.x3.h.k, .int .i64 h.x3.h.n, .string h.x3.h.s, v3] := rangeAt_part r (ds := [.int .i64 h.k, .string h.s, .int .i64 h.x1.h.k, .int .i64 h.x1.h.n, .string h.x1.h.s, v1, .int .i64 h.x2.h.k, .int .i64 h.x2.h.n, .string h.x2.h.s, v2]) (es := [.int .i64 h.x3.h.k, .int .i64 h.x3.h.n, .string h.x3.h.s, v3]) rfl
theorem boxX4 {w : World} {N : Nat} {h : SH} {v1 v2 v3 v4 u : Value} (r : w.rangeAt N 0 (scells h v1 v2 v3 v4 u)) : w.rangeAt N 14 [.int .i64 h.x4.h.k, .int .i64 h.x4.h.n, .string h.x4.h.s, v4] := rangeAt_part r (ds := [.int .i64 h.k, .string h.s, .int .i64 h.x1.h.k, .int .i64 h.x1.h.n, .string h.x1.h.s, v1, .int .i64 h.x2.h.k, .int .i64 h.x2.h.n, .string h.x2.h.s, v2, .int .i64 h.x3.h.k, .int .i64 h.x3.h.n, .string h.x3.h.s, v3]) (es := [.int .i64 h.x4.h.k, .int .i64 h.x4.h.n, .string h.x4.h.s, v4]) rfl
structure LpR (w0 w : World) (R : Nat) (ts : List AR) (ns : List ByteArray) (vn : Nat) (va vb nv sa sv : Value) (bs : List AR) (nm : ByteArray) (l : SF) (hi : Int) (n : Int) (tot : Nat × St) (g : Nat) (wr : World) : Prop where
  is : ∃ (g' : Nat) (st : St) (rs : List VR) (so : Value), RS w0 wr R ts ns rs st va vb nv sa sv so ∧ Fine ts ns vn bs st ∧ st.f < g' ∧ g' ≤ g ∧ tot = exec ts ns g' bs (.inr (nm, l, n, hi)) st
  kq : KQ R w wr
  sz : w.heap.size ≤ wr.heap.size
set_option maxHeartbeats 4000000 in
set_option maxRecDepth 100000 in
theorem loop_of {w0 : World} {R : Nat} {ts : List AR} {ns : List ByteArray} {vn : Nat} {rs : List VR} {st : St} {va vb nv sa sv so fv : Value} {bs : List AR} {JJ : World → Prop} {g : Nat} (IH : ∀ g', g' < g → StmtsC w0 R ts ns vn va vb nv sa sv g') (hf : Fine ts ns vn bs st) (hg : st.f < g) (hn : NmC R ns nv sv fv bs JJ) (hvb : vb.oneCell' = true) (h : SH) (l : SF) (hl : rdyF ns vn l) (hll : snodes l ≤ 1048576) (hk3 : h.k = 3) (ht3 : toldX 8 h.x3 = true) (ht4 : toldX 8 h.x4 = true) (w : World) (v1 v2 v3 v4 u : Value) (hr : RS w0 w R ts ns rs st va vb nv sa sv so) (hJ : JJ w) (hv : HV w 0 h v1 v2 v3 v4) (hu : SV w0 0 l u) :
    Calls Tryz.prog 140 #[.pointer (some ⟨R, 0, Option.none⟩), sagg h v1 v2 v3 v4 u, fv] w (SimR w0 R ts ns va vb nv sa sv w (stepS ts ns bs h st fun lo hi s' => exec ts ns g bs (.inr (h.s, l, lo, hi)) s')) := by
  have HI := hid IH
  have HF := hid (And.intro hf hg)
  have HN := hid hn
  have HL := hid (And.intro hl hll)
  have HT := hid (And.intro ht3 ht4)
  have HVB := hid hvb
  have HU := hid hu
  have hRs := lt_heap hr.blk
  have hbA := alloc_below w (.cells (sarr h v1 v2 v3 v4 u) 119)
  have BA := hid hbA
  have R0 := hid (hr.later hbA)
  have J0 : Hid (JJ (w.alloc (.cells (sarr h v1 v2 v3 v4 u) 119))) := hn.kq _ _ hJ (KQ.of hbA)
  have HJ := hid hJ
  have SB := hid (boxS w h v1 v2 v3 v4 u 119)
  have SK := hid (blkLast w (.cells (sarr h v1 v2 v3 v4 u) 119))
  have E3 := hid (boxX3 SB.out)
  have V3 := hid (hv.e3.later hbA)
  have V4 := hid (hv.e4.later hbA)
  obtain ⟨kf, caps, hfv, _, _⟩ := (hn.lk st.V (by have := hf.rb.v; omega)).is
  have o6 : fv.oneCell' = true := by rw [hfv]; rfl
  have HFV : Hid (∃ (kf : Nat) (caps : Array Value), fv = .func (.func kf) #[] caps) := ⟨kf, caps, hfv⟩
  obtain ⟨ua, uc, hus⟩ := hu.shape
  obtain ⟨tot, htot⟩ : ∃ tot, stepS ts ns bs h st (fun lo hi s' => exec ts ns g bs (.inr (h.s, l, lo, hi)) s') = tot := ⟨_, rfl⟩
  have hsim : Hid ((∀ lo hi, evS ts ns bs st h.x3 = some lo → evS ts ns bs st h.x4 = some hi → tot = exec ts ns g bs (.inr (h.s, l, lo, hi)) st) ∧ ((evS ts ns bs st h.x3 = none ∨ evS ts ns bs st h.x4 = none) → tot = (1, st))) := by
    refine ⟨fun lo hi e1 e2 => ?_, fun e => ?_⟩
    · rw [← htot, stepS, if_pos hk3, e1, e2]
    · rw [← htot, stepS, if_pos hk3]
      rcases e with e | e
      · rw [e]
      · rw [e]; cases evS ts ns bs st h.x3 <;> rfl
  rw [htot]
  subst hus
  clear hr hf hn ht3 ht4 hvb hbA hJ hv hfv hk3 IH hg hl hu htot hll
  go_enter Tryz.func140, Tryz.ntmps140
  go_wp2_with (refine wpList_load_mid rfl 43 _ rfl w.heap.size 10 rfl _ _ E3.out Tryz.underlying43 rfl sizeExp4 ?_)
  refine (value_is HF.out.1.rb HN.out HVB.out h.x3 HT.out.1 _ v3 R0.out J0.out V3.out).mono ?_
  rintro e w1 ⟨he, hb1⟩
  have R1 := hid (R0.out.later hb1)
  have B1 := hid (BA.out.trans (hb1.mono BA.out.size))
  have S1 := hid (rangeAt_later SB.out hb1)
  have SK1 := hid ((hb1.block _ (lt_heap SK.out)).trans SK.out)
  have J1 : Hid (JJ w1) := HN.out.kq _ _ J0.out (KQ.of hb1)
  have V41 := hid (V4.out.later hb1)
  have E4 := hid (boxX4 S1.out)
  obtain ⟨r1, hr1⟩ : ∃ r, evS ts ns bs st h.x3 = r := ⟨_, rfl⟩
  rw [hr1] at he
  have HR1 := hid hr1
  obtain rfl : e = .returned (.tuple #[.int .i64 (r1.getD 0), .bool r1.isSome]) := he
  clear hb1 hr1 R0 E3 V3 V4 BA SB J0 SK
  go_wp2_with (refine wpList_load_mid rfl 43 _ rfl w.heap.size 14 rfl _ _ E4.out Tryz.underlying43 rfl sizeExp4 ?_)
  refine (value_is HF.out.1.rb HN.out HVB.out h.x4 HT.out.2 _ v4 R1.out J1.out V41.out).mono ?_
  rintro e w2 ⟨he, hb2⟩
  have R2 := hid (R1.out.later hb2)
  have B2 := hid (B1.out.trans (hb2.mono B1.out.size))
  have SK2 := hid ((hb2.block _ (lt_heap SK1.out)).trans SK1.out)
  obtain ⟨r2, hr2⟩ : ∃ r, evS ts ns bs st h.x4 = r := ⟨_, rfl⟩
  rw [hr2] at he
  have HR2 := hid hr2
  obtain rfl : e = .returned (.tuple #[.int .i64 (r2.getD 0), .bool r2.isSome]) := he
  clear hb2 hr2 R1 E4 V41 S1 J1 B1 SK1
  cases r1 with
  | none =>
    have hs1 := hid (hsim.out.2 (.inl HR1.out))
    go_wp2
    go_ret
    exact ⟨rs, _, (by rw [hs1.out]; rfl), (by rw [hs1.out]; exact R2.out), KQ.of B2.out, B2.out.size⟩
  | some lo =>
    cases r2 with
    | none =>
      have hs1 := hid (hsim.out.2 (.inr HR2.out))
      go_wp2
      go_ret
      exact ⟨rs, _, (by rw [hs1.out]; rfl), (by rw [hs1.out]; exact R2.out), KQ.of B2.out, B2.out.size⟩
    | some hi =>
      have hs1 := hid (hsim.out.1 lo hi HR1.out HR2.out)
      have wlo := HF.out.1.ev HT.out.1 HR1.out
      have whi := HF.out.1.ev HT.out.2 HR2.out
      obtain ⟨wl1, wl2⟩ := wlo
      obtain ⟨wh1, wh2⟩ := whi
      have L0 : Hid (LpR w0 w R ts ns vn va vb nv sa sv bs h.s l hi lo tot g w2) := ⟨⟨g, st, rs, so, R2.out, HF.out.1, HF.out.2, Nat.le_refl _, hs1.out⟩, KQ.of B2.out, B2.out.size⟩
      clear hsim hs1 R2 B2 HR1 HR2
      go_wp2
      go_loopw [11] (fun i wr => ∃ n : Int, i = .int .i64 n ∧ -2147483648 ≤ n ∧ n ≤ 2147483648 ∧ Hid (LpR w0 w R ts ns vn va vb nv sa sv bs h.s l hi n tot g wr) ∧ Hid (wr.heap[w.heap.size]? = some (.cells (sarr h v1 v2 v3 v4 (.slice ua (slen l) uc)) 119 (0, 0)))) (fun i _ => (hi + 1 - RowKit.intOf i).toNat)
      case atStart => exact ⟨lo, rfl, wl1, by omega, L0.out, SK2.out⟩
      case round =>
        obtain ⟨n, rfl, hn1, hn2, hL, hSK⟩ := hrel
        clear L0 SK2
        by_cases hcmp : n ≤ hi
        · obtain ⟨⟨g', st1, rs1, so1, hR1, hF1, hf1, hg1, htot⟩, hkq, hsz⟩ := hL.out
          obtain ⟨g2, rfl⟩ : ∃ k, g' = k + 1 := ⟨g' - 1, by omega⟩
          have HR := hid hR1
          have HF1 := hid (And.intro hF1 (And.intro hf1 hg1))
          have HK := hid (And.intro hkq hsz)
          have HTT := hid htot
          have hf4 := hF1.rb.f
          clear hR1 hF1 hf1 hg1 htot hkq hL hsz
          go_wp2_with fail
          refine (burn_is hf4 wr HR.out).mono ?_
          rintro e w3 (⟨hz, rfl, rfl⟩ | ⟨hz, rfl, hR3, hk3⟩)
          · have HZ := hid hz
            clear hz
            go_wp2
            go_ret
            have e0 : tot = (2, st1) := by rw [HTT.out, exec, if_neg (by omega), if_pos HZ.out]
            exact ⟨rs1, so1, (by rw [e0]; rfl), (by rw [e0]; exact HR.out), HK.out.1, HK.out.2⟩
          · have HZ := hid hz
            have R3 := hid hR3
            have K3 := hid (HK.out.1.trans hk3)
            have hSK3 : Hid (w3.heap[w.heap.size]? = some (.cells (sarr h v1 v2 v3 v4 (.slice ua (slen l) uc)) 119 (0, 0))) := hk3 _ _ _ (by omega) (by decide) hSK.out
            clear hz hR3 hk3 hSK
            go_wp2_with fail
            have bd : Below w3.heap.size w3 w3.drew := (Below.refl _ w3).drew
            have Rd := hid (R3.out.later bd)
            have Kd := hid (K3.out.trans (KQ.of bd))
            have hSKd : Hid (w3.drew.heap[w.heap.size]? = some (.cells (sarr h v1 v2 v3 v4 (.slice ua (slen l) uc)) 119 (0, 0))) := (bd.block _ (lt_heap hSK3.out)).trans hSK3.out
            have hRd := lt_heap Rd.out.blk
            clear bd R3 K3 hSK3
            obtain ⟨W, hW⟩ : ∃ W, w3.drew = W := ⟨_, rfl⟩
            rw [hW] at Rd Kd hSKd hRd
            refine wp_region_held_drew (S := fun w' => w'.cell? ⟨w.heap.size, 18, Option.none⟩ = some (.slice ua (slen l) uc) ∧ w'.cell? ⟨w.heap.size, 1, Option.none⟩ = some (.string h.s)) (by kernel_rfl) (by rw [hW]; exact stmtCells hSKd.out) (fun hHeld => ?_)
            rw [hW] at hHeld ⊢
            clear hW
            refine wpAnyH_take (i := 0) (v := .pointer (some ⟨R, 0, Option.none⟩)) rfl (by kernel_rfl) (by kernel_rfl) (by kernel_rfl) (fun _ _ _ h => h) (Or.inl ⟨by rfl, ?la0⟩) hHeld ?_
            case la0 => intro w hSw; go_simp
            simp only [Act.put, zp]
            refine wpAnyH_take (i := 1) (v := .pointer (some ⟨w.heap.size, 18, Option.none⟩)) rfl (by kernel_rfl) (by kernel_rfl) (by kernel_rfl) (fun _ _ _ h => h) (Or.inl ⟨by rfl, ?la1⟩) hHeld ?_
            case la1 => intro w hSw; go_simp
            simp only [Act.put, zp]
            refine wpAnyH_take (i := 2) (v := .slice ua (slen l) uc) rfl (by kernel_rfl) (by kernel_rfl) (by kernel_rfl) (fun _ _ _ h => h) (Or.inl ⟨by rfl, ?la2⟩) hHeld ?_
            case la2 => intro w hSw; have h1 := hSw.1; go_simp
            simp only [Act.put, zp]
            refine wpAnyH_take (i := 3) (v := fv) rfl (by kernel_rfl) (by kernel_rfl) (by kernel_rfl) (fun _ _ _ h => h) (Or.inl ⟨by rfl, ?la3⟩) hHeld ?_
            case la3 => intro w hSw; go_simp
            simp only [Act.put, zp]
            refine wpAnyH_take (i := 4) (v := .pointer (some ⟨w.heap.size, 1, Option.none⟩)) rfl (by kernel_rfl) (by kernel_rfl) (by kernel_rfl) (fun _ _ _ h => h) (Or.inl ⟨by rfl, ?la4⟩) hHeld ?_
            case la4 => intro w hSw; go_simp
            simp only [Act.put, zp]
            refine wpAnyH_take (i := 5) (v := .string h.s) rfl (by kernel_rfl) (by kernel_rfl) (by kernel_rfl) (fun _ _ _ h => h) (Or.inl ⟨by rfl, ?la5⟩) hHeld ?_
            case la5 => intro w hSw; have h1 := hSw.2; go_simp
            simp only [Act.put, zp]
            refine wpAnyH_take (i := 6) (v := .int .i64 n) rfl (by kernel_rfl) (by kernel_rfl) (by kernel_rfl) (fun _ _ _ h => h) (Or.inl ⟨by rfl, ?la6⟩) hHeld ?_
            case la6 => intro w hSw; go_simp
            simp only [Act.put, zp]
            refine wpAnyH_take (i := 7) (v := .agg #[.string h.s, .int .i64 n]) rfl (by kernel_rfl) (by kernel_rfl) (by kernel_rfl) (fun _ _ _ h => h) (Or.inl ⟨by rfl, ?la7⟩) hHeld ?_
            case la7 => intro w hSw; go_simp
            simp only [Act.put, zp]
            refine wpAnyH_ready (rs := [8]) (by kernel_rfl) (by simp) ?_
            refine AllReadyH.cons rfl (fun K hK => ?_) AllReadyH.nil
            rw [if_pos (by rfl)]
            simp only [zq]
            go_wp2_with fail
            have hbW := alloc_below W (.cells #[.string h.s, .int .i64 n] 85)
            have gB := hid (blkLast W (.cells #[.string h.s, .int .i64 n] 85))
            have sB : (W.alloc (.cells #[.string h.s, .int .i64 n] 85)).heap.size = W.heap.size + 1 := by simp
            refine hK.out _ _ ⟨keeps hbW hHeld.1, keeps hbW hHeld.2⟩ (fun hHeld => ?_)
            have R4 := hid (Rd.out.later hbW)
            have K4 := hid (Kd.out.trans (KQ.of hbW))
            have hSK4 := hid ((hbW.block _ (lt_heap hSKd.out)).trans hSKd.out)
            obtain ⟨W4, hW4⟩ : ∃ W4, W.alloc (.cells #[.string h.s, .int .i64 n] 85) = W4 := ⟨_, rfl⟩
            rw [hW4] at hHeld R4 K4 hSK4 gB sB ⊢
            clear hW4 hbW Rd Kd hSKd hK
            refine wpAnyH_ready (rs := [9]) (by kernel_rfl) (by simp) ?_
            refine AllReadyH.cons rfl (fun K hK => ?_) AllReadyH.nil
            rw [if_pos (by rfl)]
            simp only [zq]
            go_wp2_with fail
            refine (with2_is fv HFV.out (.slice (some ⟨W.heap.size, 0, Option.none⟩) 1 1) ⟨_, _, _, rfl⟩ W4).mono ?_
            rintro e w5 ⟨rfl, hb5, q0, q1⟩
            go_wp2_with fail
            refine hK.out _ _ ⟨keeps hb5 hHeld.1, keeps hb5 hHeld.2⟩ (fun hHeld => ?_)
            rw [sB] at q0 q1
            have R5 := hid (R4.out.later hb5)
            have K5 := hid (K4.out.trans (KQ.of hb5))
            have hSK5 := hid ((hb5.block _ (lt_heap hSK4.out)).trans hSK4.out)
            have N5 := hid (NmC.next (pb := W.heap.size + 1 + 1) (po := W.heap.size + 1) (gb := W.heap.size) ⟨h.s, n⟩ HN.out (by omega) (by omega) (by omega))
            have JN : Hid (JJ w5 ∧ w5.heap[W.heap.size + 1 + 1]? = some (.cells #[.slice (some ⟨W.heap.size, 0, Option.none⟩) 1 1] 40 (0, 0)) ∧ w5.heap[W.heap.size + 1]? = some (.cells #[fv] 73 (0, 0)) ∧ w5.heap[W.heap.size]? = some (.cells #[.string h.s, .int .i64 n] 85 (0, 0))) :=
              ⟨HN.out.kq _ _ HJ.out K5.out, q1, q0, (hb5.block _ (by omega)).trans gB.out⟩
            have S5 : Hid (w.heap.size ≤ w5.heap.size) := by have := lt_heap hSK5.out; exact Nat.le_of_lt this
            clear hb5 q0 q1 R4 K4 hSK4 gB sB hK
            refine wpAnyH_ready (rs := [10]) (by kernel_rfl) (by simp) ?_
            refine AllReadyH.cons rfl (fun K hK => ?_) AllReadyH.nil
            rw [if_pos (by rfl)]
            simp only [zq]
            go_wp2_with fail
            have hwn : wd n := ⟨hn1, by omega⟩
            have FB := HF1.out.1.burn HZ.out
            have hfb : (burnt st1).f < g2 := by have h1 := HF1.out.2.1; have h2 := HZ.out; show st1.f - 1 < g2; omega
            refine (HI.out g2 (by have := HF1.out.2.2; omega) l (bs ++ [⟨h.s, n⟩]) _ _ (burnt st1) rs1 so1 w5 (.slice ua (slen l) uc) HL.out.1 HL.out.2 N5.out (FB.1.bind ⟨h.s, n⟩ hwn) hfb R5.out JN.out HU.out).mono ?_
            rintro e w6 ⟨rs6, so6, rfl, hR6, hk6, hs6⟩
            have FX := hid (exec_fine g2 (bs ++ [⟨h.s, n⟩]) (.inl l) (burnt st1) HL.out.1 (FB.1.bind ⟨h.s, n⟩ hwn))
            have LX := (exec_like ts ns g2 (bs ++ [⟨h.s, n⟩]) (.inl l) (burnt st1)).f
            have TX : Hid (tot = andThen (exec ts ns g2 (bs ++ [⟨h.s, n⟩]) (.inl l) (burnt st1)) fun s' => exec ts ns g2 bs (.inr (h.s, l, n + 1, hi)) s') := by
              show _ = _
              rw [HTT.out, exec, if_neg (by omega), if_neg HZ.out]
            obtain ⟨rr, hrr⟩ : ∃ rr, exec ts ns g2 (bs ++ [⟨h.s, n⟩]) (.inl l) (burnt st1) = rr := ⟨_, rfl⟩
            rw [hrr] at hR6 FX LX TX ⊢
            have LXX : Hid (rr.2.f < g2) := show _ < _ by omega
            have R6 := hid hR6
            have K6 := hid (K5.out.trans hk6)
            have S6 := hid (Nat.le_trans S5.out hs6)
            have hSK6 : Hid (w6.heap[w.heap.size]? = some (.cells (sarr h v1 v2 v3 v4 (.slice ua (slen l) uc)) 119 (0, 0))) := hk6 _ _ _ (by omega) (by decide) hSK5.out
            clear hrr hfb FB LX hR6
            go_wp2_with fail
            refine hK.out _ _ (stmtCells hSK6.out) (fun hHeld => ?_)
            clear hk6 hs6 R5 K5 hSK5 N5 JN S5 hK
            refine wpAnyH_take (i := 11) (v := .int .i64 (rr.1 : Int)) rfl (by kernel_rfl) (by kernel_rfl) (by kernel_rfl) (fun _ _ _ h => h) (Or.inl ⟨by rfl, ?lb11⟩) hHeld ?_
            case lb11 => intro w hSw; go_simp
            simp only [Act.put, zp]
            refine wpAnyH_done (by kernel_rfl) ?_ _
            clear hHeld
            obtain ⟨en, st6⟩ := rr
            by_cases hen : en = 0
            · subst hen
              have TN : Hid (tot = exec ts ns g2 bs (.inr (h.s, l, n + 1, hi)) st6) := by
                show _ = _
                rw [TX.out, andThen, if_pos rfl]
              clear TX
              go_wp2
              go_roundw
              case measure => simp [RowKit.intOf]; omega
              case rel => exact ⟨n + 1, rfl, by omega, by omega, ⟨⟨g2, st6, rs6, so6, R6.out, HF1.out.1.unbind FX.out, LXX.out, by have := HF1.out.2.2; omega, TN.out⟩, K6.out, S6.out⟩, hSK6.out⟩
            · have hne : ((en : Int) == 0) = false := by simp; exact hen
              have TN : Hid (tot = (en, st6)) := by
                show _ = _
                rw [TX.out, andThen, if_neg hen]
              clear TX hen
              go_wp2
              go_ret
              exact ⟨rs6, so6, (by rw [TN.out]; rfl), (by rw [TN.out]; exact R6.out), K6.out, S6.out⟩
        · obtain ⟨⟨g', st1, rs1, so1, hR1, hF1, hf1, hg1, htot⟩, hkq, hsz⟩ := hL.out
          obtain ⟨g2, rfl⟩ : ∃ k, g' = k + 1 := ⟨g' - 1, by omega⟩
          have e0 : Hid (tot = (0, st1)) := show tot = (0, st1) by rw [htot, exec, if_pos (by omega)]
          have HR := hid hR1
          have HK := hid (And.intro hkq hsz)
          clear hR1 hF1 hf1 hg1 htot hkq hL hsz
          go_wp2
          go_ret
          exact ⟨rs1, so1, (by rw [e0.out]; rfl), (by rw [e0.out]; exact HR.out), HK.out.1, HK.out.2⟩
theorem stmtRange {W : World} {N : Nat} {h : SH} {v1 v2 v3 v4 u : Value} (k : W.heap[N]? = some (.cells (sarr h v1 v2 v3 v4 u) 119 (0, 0))) : W.rangeAt N 0 (scells h v1 v2 v3 v4 u) ∧ W.cell? ⟨N, 0, Option.none⟩ = some (.int .i64 h.k) := by
  have r : W.rangeAt N 0 (scells h v1 v2 v3 v4 u) := blk_range (arr := sarr h v1 v2 v3 v4 u) k
  have a := r 0 _ rfl
  exact ⟨r, a⟩
def oneR (ts : List AR) (ns : List ByteArray) (g : Nat) (bs : List AR) (h : SH) (l : SF) (st : St) : Nat × St :=
  if st.f = 0 then (2, st) else stepS ts ns bs h (burnt st) fun lo hi s' => exec ts ns g bs (.inr (h.s, l, lo, hi)) s'
theorem exec_one (ts : List AR) (ns : List ByteArray) (g : Nat) (bs : List AR) (p q : Nat) (h : SH) (l r : SF) (st : St) : exec ts ns (g + 1) bs (.inl (.node p q h l r)) st = andThen (oneR ts ns g bs h l st) fun s' => exec ts ns g bs (.inl r) s' := by
  rw [exec, oneR]
  split
  · rfl
  · rfl
theorem one_same (ts : List AR) (ns : List ByteArray) (g : Nat) (bs : List AR) (h : SH) (l : SF) (st : St) : (exec ts ns (g + 1) bs (.inl (.node 0 0 h l .nil)) st).2 = (oneR ts ns g bs h l st).2 := by
  rw [exec_one, andThen]
  split
  · cases g <;> rfl
  · rfl
theorem one_fine {ts : List AR} {ns : List ByteArray} {vn g : Nat} {bs : List AR} {h : SH} {l : SF} {st : St} (hs : rdyS ns vn h) (hl : rdyF ns vn l) (hf : Fine ts ns vn bs st) : Fine ts ns vn bs (oneR ts ns g bs h l st).2 := by
  rw [← one_same]
  exact exec_fine (g + 1) bs _ st ⟨hs, hl, trivial⟩ hf
theorem one_less {ts : List AR} {ns : List ByteArray} {g : Nat} {bs : List AR} {h : SH} {l : SF} {st : St} (h0 : (oneR ts ns g bs h l st).1 = 0) (hg : st.f < g + 1) : (oneR ts ns g bs h l st).2.f < g := by
  revert h0
  rw [oneR]
  split
  · intro h; cases h
  · rename_i hz
    intro _
    have := (stepS_like ts ns bs h (burnt st) (rounds := fun lo hi s' => exec ts ns g bs (.inr (h.s, l, lo, hi)) s') fun lo hi t => exec_like ts ns g bs _ t).f
    have e : (burnt st).f = st.f - 1 := rfl
    omega
set_option maxHeartbeats 4000000 in
set_option maxRecDepth 100000 in
theorem stmt_of {w0 : World} {R : Nat} {ts : List AR} {ns : List ByteArray} {vn : Nat} {rs : List VR} {st : St} {va vb nv sa sv so fv : Value} {bs : List AR} {JJ : World → Prop} {g : Nat} (IH : ∀ g', g' < g → StmtsC w0 R ts ns vn va vb nv sa sv g') (hf : Fine ts ns vn bs st) (hg : st.f < g + 1) (hn : NmC R ns nv sv fv bs JJ) (hvb : vb.oneCell' = true) (h : SH) (l : SF) (hs : rdyS ns vn h) (hl : rdyF ns vn l) (hll : snodes l ≤ 1048576) (w : World) (v1 v2 v3 v4 u : Value) (hr : RS w0 w R ts ns rs st va vb nv sa sv so) (hJ : JJ w) (hv : HV w0 0 h v1 v2 v3 v4) (hu : SV w0 0 l u) :
    Calls Tryz.prog 77 #[.pointer (some ⟨R, 0, Option.none⟩), sagg h v1 v2 v3 v4 u, fv] w (SimR w0 R ts ns va vb nv sa sv w (oneR ts ns g bs h l st)) := by
  have HI := hid IH
  have HF := hid (And.intro hf hg)
  have HN := hid hn
  have HS := hid hs
  have HL := hid (And.intro hl hll)
  have HVB := hid hvb
  have HV0 := hid hv
  have HU := hid hu
  have HJ := hid hJ
  have hRs := lt_heap hr.blk
  have hbA := alloc_below w (.cells (sarr h v1 v2 v3 v4 u) 119)
  have BA := hid hbA
  have R0 := hid (hr.later hbA)
  have SK := hid (blkLast w (.cells (sarr h v1 v2 v3 v4 u) 119))
  obtain ⟨tot, htot⟩ : ∃ tot, oneR ts ns g bs h l st = tot := ⟨_, rfl⟩
  have HT := hid htot
  obtain ⟨kf, caps, hfv, _, _⟩ := (hn.lk st.V (by have := hf.rb.v; omega)).is
  have o6 : fv.oneCell' = true := by rw [hfv]; rfl
  have o1 := hv.e1.isOne
  have o2 := hv.e2.isOne
  have o3 := hv.e3.isOne
  have o4 := hv.e4.isOne
  have o5 := hu.isOne
  have hf4 := hf.rb.f
  rw [htot]
  clear IH hf hg hn hs hl hll hvb hv hu hJ hbA htot hr hfv
  go_enter Tryz.func77, Tryz.ntmps77
  go_wp2_with fail
  refine (burn_is hf4 _ R0.out).mono ?_
  rintro e w3 (⟨hz, rfl, rfl⟩ | ⟨hz, rfl, hR3, hk3⟩)
  · have e0 : Hid (tot = (2, st)) := show _ = _ by rw [← HT.out, oneR, if_pos hz]
    clear hz
    go_wp2
    go_ret
    exact ⟨rs, so, (by rw [e0.out]; rfl), (by rw [e0.out]; exact R0.out), KQ.of BA.out, BA.out.size⟩
  · have HZ := hid hz
    have R3 := hid hR3
    have K3 := hid ((KQ.of BA.out).trans hk3)
    have SK3 := hid (hk3 _ _ _ (show w.heap.size ≠ R by omega) (by decide) SK.out)
    have S3 : Hid (w.heap.size ≤ w3.heap.size) := Nat.le_of_lt (lt_heap SK3.out)
    have RG := hid (stmtRange SK3.out).1
    have c0 := (stmtRange SK3.out).2
    have J3 : Hid (JJ w3) := HN.out.kq _ _ HJ.out K3.out
    have V3 := hid (HV0.out.later R3.out.low)
    have F3 := hid (HF.out.1.burn HZ.out)
    have TT : Hid (tot = stepS ts ns bs h (burnt st) fun lo hi s' => exec ts ns g bs (.inr (h.s, l, lo, hi)) s') := show _ = _ by rw [← HT.out, oneR, if_neg HZ.out]
    clear hz hR3 hk3 R0 SK BA HT
    rcases HS.out with ⟨hk, ht, k, hi, hkv⟩ | ⟨hk, ht1, ht⟩ | ⟨hk, ht3, ht4⟩ | ⟨hk, ht⟩
    · have b1 : (h.k == 1) = true := by rw [hk]; rfl
      have E : Hid (stepS ts ns bs h (burnt st) (fun lo hi s' => exec ts ns g bs (.inr (h.s, l, lo, hi)) s') = simple ts ns bs h (burnt st)) := show _ = _ by rw [stepS, if_neg (by omega)]
      have C := hid (set_is F3.out.1.rb HN.out HVB.out h hk k hi (by rw [F3.out.1.n]; exact hkv) ht w3 v1 v2 v3 v4 u R3.out J3.out V3.out)
      clear hk ht hi hkv
      go_wp2_with (refine wpList_load_mid rfl 119 _ rfl w.heap.size 0 rfl _ _ RG.out Tryz.underlying119 rfl sizeIS ?_)
      refine C.out.mono ?_
      rintro e w4 ⟨rs4, so4, rfl, hR4, hk4, hs4⟩
      have X4 := hid (And.intro hR4 (And.intro (K3.out.trans hk4) (Nat.le_trans S3.out hs4)))
      have T4 := hid (TT.out.trans E.out)
      clear hR4 hk4 hs4
      go_wp2
      go_ret
      exact ⟨rs4, so4, (by rw [T4.out]; rfl), (by rw [T4.out]; exact X4.out.1), X4.out.2.1, X4.out.2.2⟩
    · have b1 : (h.k == 1) = false := by rw [hk]; rfl
      have b2 : (h.k == 2) = true := by rw [hk]; rfl
      have E : Hid (stepS ts ns bs h (burnt st) (fun lo hi s' => exec ts ns g bs (.inr (h.s, l, lo, hi)) s') = simple ts ns bs h (burnt st)) := show _ = _ by rw [stepS, if_neg (by omega)]
      have C := hid (put_is F3.out.1.rb HN.out HVB.out h (by omega) hk ht1 ht w3 v1 v2 v3 v4 u R3.out J3.out V3.out)
      clear hk ht ht1
      go_wp2_with (refine wpList_load_mid rfl 119 _ rfl w.heap.size 0 rfl _ _ RG.out Tryz.underlying119 rfl sizeIS ?_)
      refine C.out.mono ?_
      rintro e w4 ⟨rs4, so4, rfl, hR4, hk4, hs4⟩
      have X4 := hid (And.intro hR4 (And.intro (K3.out.trans hk4) (Nat.le_trans S3.out hs4)))
      have T4 := hid (TT.out.trans E.out)
      clear hR4 hk4 hs4
      go_wp2
      go_ret
      exact ⟨rs4, so4, (by rw [T4.out]; rfl), (by rw [T4.out]; exact X4.out.1), X4.out.2.1, X4.out.2.2⟩
    · have b1 : (h.k == 1) = false := by rw [hk]; rfl
      have b2 : (h.k == 2) = false := by rw [hk]; rfl
      have b3 : (h.k == 3) = true := by rw [hk]; rfl
      have hfb : (burnt st).f < g := by have h1 := HF.out.2; have h2 := HZ.out; show st.f - 1 < g; omega
      have C := hid (loop_of HI.out F3.out.1 hfb HN.out HVB.out h l HL.out.1 HL.out.2 hk ht3 ht4 w3 v1 v2 v3 v4 u R3.out J3.out V3.out HU.out)
      clear hk ht3 ht4 hfb
      go_wp2_with (refine wpList_load_mid rfl 119 _ rfl w.heap.size 0 rfl _ _ RG.out Tryz.underlying119 rfl sizeIS ?_)
      refine C.out.mono ?_
      rintro e w4 ⟨rs4, so4, rfl, hR4, hk4, hs4⟩
      have X4 := hid (And.intro hR4 (And.intro (K3.out.trans hk4) (Nat.le_trans S3.out hs4)))
      have T4 := hid (TT.out)
      clear hR4 hk4 hs4
      go_wp2
      go_ret
      exact ⟨rs4, so4, (by rw [T4.out]; rfl), (by rw [T4.out]; exact X4.out.1), X4.out.2.1, X4.out.2.2⟩
    · have b1 : (h.k == 1) = false := by rw [hk]; rfl
      have b2 : (h.k == 2) = false := by rw [hk]; rfl
      have b3 : (h.k == 3) = false := by rw [hk]; rfl
      have b4 : (h.k == 4) = true := by rw [hk]; rfl
      have E : Hid (stepS ts ns bs h (burnt st) (fun lo hi s' => exec ts ns g bs (.inr (h.s, l, lo, hi)) s') = simple ts ns bs h (burnt st)) := show _ = _ by rw [stepS, if_neg (by omega)]
      have C := hid (print_is F3.out.1.rb (by have := F3.out.2; omega) HN.out HVB.out h (by omega) (by omega) ht w3 v1 v2 v3 v4 u R3.out J3.out V3.out)
      clear hk ht
      go_wp2_with (refine wpList_load_mid rfl 119 _ rfl w.heap.size 0 rfl _ _ RG.out Tryz.underlying119 rfl sizeIS ?_)
      refine C.out.mono ?_
      rintro e w4 ⟨rs4, so4, rfl, hR4, hk4, hs4⟩
      have X4 := hid (And.intro hR4 (And.intro (K3.out.trans hk4) (Nat.le_trans S3.out hs4)))
      have T4 := hid (TT.out.trans E.out)
      clear hR4 hk4 hs4
      go_wp2
      go_ret
      exact ⟨rs4, so4, (by rw [T4.out]; rfl), (by rw [T4.out]; exact X4.out.1), X4.out.2.1, X4.out.2.2⟩
structure SsR (w0 w : World) (R : Nat) (ts : List AR) (ns : List ByteArray) (vn : Nat) (va vb nv sa sv : Value) (bs : List AR) (F : SF) (b o k : Nat) (tot : Nat × St) (g : Nat) (Rm : SF) (g' : Nat) (st : St) (rs : List VR) (so : Value) (wr : World) : Prop where
  r : RS w0 wr R ts ns rs st va vb nv sa sv so
  f : Fine ts ns vn bs st
  lt : st.f < g' ∧ g' ≤ g
  t : tot = exec ts ns g' bs (.inl Rm) st
  n : k + slen Rm = slen F
  ok : rdyF ns vn Rm ∧ snodes Rm ≤ 1048576
  at_ : SIn w0 0 Rm b (o + k * 19)
  kq : KQ R w wr
  sz : w.heap.size ≤ wr.heap.size
set_option maxHeartbeats 4000000 in
set_option maxRecDepth 100000 in
theorem stmts_of {w0 : World} {R : Nat} {ts : List AR} {ns : List ByteArray} {vn : Nat} {va vb nv sa sv : Value} (hvb : vb.oneCell' = true) {g : Nat} (IH : ∀ g', g' < g → StmtsC w0 R ts ns vn va vb nv sa sv g') : StmtsC w0 R ts ns vn va vb nv sa sv g := by
  intro F bs fv JJ st rs so w u hF hFl hn hf hg hr hJ hu
  obtain ⟨b, o, a, c, rfl, ha, _, hin⟩ := hu
  obtain ⟨tot, htot⟩ : ∃ tot, exec ts ns g bs (.inl F) st = tot := ⟨_, rfl⟩
  have HI := hid IH
  have HN := hid hn
  have HVB := hid hvb
  have HJ := hid hJ
  have L0 : Hid (SsR w0 w R ts ns vn va vb nv sa sv bs F b o 0 tot g F g st rs so w) := ⟨hr, hf, ⟨hg, Nat.le_refl _⟩, htot.symm, by omega, ⟨hF, hFl⟩, by simpa using hin, KQ.refl _ _, Nat.le_refl _⟩
  have hsl : slen F ≤ 1048576 := Nat.le_trans (slen_le F) hFl
  have HA := hid ha
  obtain ⟨kf, caps, hfv, _, _⟩ := (hn.lk st.V (by have := hf.rb.v; omega)).is
  have o6 : fv.oneCell' = true := by rw [hfv]; rfl
  rw [htot]
  clear IH hn hvb hJ htot hr hf hF hFl hg hin ha hfv
  go_enter Tryz.func35, Tryz.ntmps35
  go_wp2
  go_loopw [12] (fun i wr => ∃ (k : Nat) (Rm : SF) (g' : Nat) (st : St) (rs : List VR) (so : Value), i = .int .i64 (k : Int) ∧ Hid (SsR w0 w R ts ns vn va vb nv sa sv bs F b o k tot g Rm g' st rs so wr)) (fun i _ => slen F - (RowKit.intOf i).toNat)
  case atStart => exact ⟨0, F, g, st, rs, so, rfl, L0.out⟩
  case round =>
    obtain ⟨k, Rm, g', st1, rs1, so1, rfl, hL⟩ := hrel
    clear L0
    cases Rm with
    | nil =>
      have hk : ¬ (k : Int) < (slen F : Int) := by have := hL.out.n; simp only [slen] at this; omega
      obtain ⟨g2, rfl⟩ : ∃ q, g' = q + 1 := ⟨g' - 1, by have := hL.out.lt; omega⟩
      have e0 : Hid (tot = (0, st1)) := show _ = _ by rw [hL.out.t, exec]
      go_wp2
      go_ret
      exact ⟨rs1, so1, (by rw [e0.out]; rfl), (by rw [e0.out]; exact hL.out.r), hL.out.kq, hL.out.sz⟩
    | node p' q' h l r =>
      have hlt : (k : Int) < (slen F : Int) := by have := hL.out.n; simp only [slen] at this; omega
      have hne : ¬ F = .nil := by intro e; have := hL.out.n; rw [e] at this; simp only [slen] at this; omega
      obtain rfl : a = some ⟨b, o, Option.none⟩ := HA.out.resolve_right hne
      obtain ⟨g2, rfl⟩ : ∃ q, g' = q + 1 := ⟨g' - 1, by have := hL.out.lt; omega⟩
      obtain ⟨v1, v2, v3, v4, u, hu, hul, hrg⟩ := (SIn_node.1 hL.out.at_).1.range
      have Hrg := hid (rangeAt_later hrg hL.out.r.low)
      have HU := hid hu
      have HUL := hid hul
      have o1 := hu.e1.isOne
      have o2 := hu.e2.isOne
      have o3 := hu.e3.isOne
      have o4 := hu.e4.isOne
      have o5 := hul.isOne
      obtain ⟨ua, uc, rfl⟩ := hul.shape
      clear hrg hu hul hne
      go_wp2_with (first | (refine wpList_load_mid rfl 119 _ rfl b (o + k * 19) rfl _ _ Hrg.out Tryz.underlying119 rfl sizeIS ?_) | (refine store_abs rfl 119 _ _ rfl _ _ _ rfl rfl ?ht sizeIS ?ho ?_; exact (newthere wr _); exact (oneS h v1 v2 v3 v4 _ o1 o2 o3 o4 o5); intro W hW; have HW := hid (newblkS h v1 v2 v3 v4 _ hW); clear hW) | (refine wpList_load_mid rfl 119 _ rfl wr.heap.size 0 rfl _ _ HW.out.1 Tryz.underlying119 rfl sizeIS ?_))
      have okh : rdyS ns vn h ∧ rdyF ns vn l ∧ rdyF ns vn r := hL.out.ok.1
      have hno : snodes l ≤ 1048576 ∧ snodes r ≤ 1048576 := by have := hL.out.ok.2; simp only [snodes] at this; omega
      refine (stmt_of (g := g2) (fun q hq => HI.out q (by have := hL.out.lt; omega)) hL.out.f hL.out.lt.1 HN.out HVB.out h l okh.1 okh.2.1 hno.1 _ v1 v2 v3 v4 (.slice ua (slen l) uc) (hL.out.r.later HW.out.2) (HN.out.kq _ _ (HN.out.kq _ _ HJ.out hL.out.kq) (KQ.of HW.out.2)) HU.out HUL.out).mono ?_
      rintro e w6 ⟨rs6, so6, rfl, hR6, hk6, hs6⟩
      have FX := hid (one_fine (g := g2) okh.1 okh.2.1 hL.out.f)
      have LX : Hid ((oneR ts ns g2 bs h l st1).1 = 0 → (oneR ts ns g2 bs h l st1).2.f < g2) := fun e => one_less e hL.out.lt.1
      have TX : Hid (tot = andThen (oneR ts ns g2 bs h l st1) fun s' => exec ts ns g2 bs (.inl r) s') := show _ = _ by rw [hL.out.t, exec_one]
      obtain ⟨rr, hrr⟩ : ∃ rr, oneR ts ns g2 bs h l st1 = rr := ⟨_, rfl⟩
      rw [hrr] at hR6 FX LX TX ⊢
      have R6 := hid hR6
      have K6 := hid ((hL.out.kq.trans (KQ.of HW.out.2)).trans hk6)
      have S6 := hid (Nat.le_trans hL.out.sz (Nat.le_trans HW.out.2.size hs6))
      have N6 : Hid (k + 1 + slen r = slen F ∧ g2 ≤ g ∧ SIn w0 0 r b (o + (k + 1) * 19)) := ⟨by have := hL.out.n; simp only [slen] at this; omega, by have := hL.out.lt; omega, by rw [show o + (k + 1) * 19 = o + k * 19 + 19 by omega]; exact (SIn_node.1 hL.out.at_).2⟩
      have OK6 : Hid (rdyF ns vn r ∧ snodes r ≤ 1048576) := ⟨okh.2.2, hno.2⟩
      clear hrr hR6 hk6 hs6 hL Hrg HW okh hno HU HUL
      obtain ⟨en, st6⟩ := rr
      by_cases hen : en = 0
      · subst hen
        have TN : Hid (tot = exec ts ns g2 bs (.inl r) st6) := show _ = _ by rw [TX.out, andThen, if_pos rfl]
        have L6 := hid (LX.out rfl)
        clear TX LX
        go_wp2
        go_roundw
        case measure => simp [RowKit.intOf]; omega
        case rel => exact ⟨k + 1, r, g2, st6, rs6, so6, by simp, ⟨R6.out, FX.out, ⟨L6.out, N6.out.2.1⟩, TN.out, N6.out.1, OK6.out, N6.out.2.2, K6.out, S6.out⟩⟩
      · have hne : ((en : Int) == 0) = false := by simp; exact hen
        have TN : Hid (tot = (en, st6)) := show _ = _ by rw [TX.out, andThen, if_neg hen]
        clear TX hen LX
        go_wp2
        go_ret
        exact ⟨rs6, so6, (by rw [TN.out]; rfl), (by rw [TN.out]; exact R6.out), K6.out, S6.out⟩
theorem stmts_all {w0 : World} {R : Nat} {ts : List AR} {ns : List ByteArray} {vn : Nat} {va vb nv sa sv : Value} (hvb : vb.oneCell' = true) (g : Nat) : StmtsC w0 R ts ns vn va vb nv sa sv g := by
  induction g using Nat.strongRecOn with
  | _ g ih => exact stmts_of hvb ih
structure QS (w0 w : World) (R : Nat) (ts : List AR) (ns : List ByteArray) (rs : List VR) (st : St) (en : Nat) (bs : List AR) (va vb nv sa sv so bv : Value) : Prop where
  blk : w.heap[R]? = some (.cells #[va, vb, nv, sa, sv, so, .int .i64 (en : Int), bv, .int .i64 (st.f : Int)] 81 (0, 0))
  out : w.ownsRow w0.heap.size 31 1 sa rs.length (rs.map (·.1))
  own : Owns w w0.heap.size (rs ++ [(sv, st.V), (so, st.O)])
  a : rs.map (·.2) = st.A
  bd : w.ownsRow w0.heap.size 85 2 bv bs.length (acells bs)
  nm : TV w0 0 nv ns
  p : AV w0 0 va ts
  low : Below w0.heap.size w0 w
  ge : w0.heap.size ≤ R ∧ w0.heap.size ≤ w.heap.size
section
variable {w0 w w' : World} {R : Nat} {ts : List AR} {ns : List ByteArray} {rs : List VR} {st st' : St} {en en' : Nat} {bs bs' : List AR} {va vb nv sa sv so bv bv' : Value}
theorem QS.later (h : QS w0 w R ts ns rs st en bs va vb nv sa sv so bv) (hb : Below w.heap.size w w') : QS w0 w' R ts ns rs st en bs va vb nv sa sv so bv :=
  ⟨(hb.block _ (lt_heap h.blk)).trans h.blk, ownB h.out hb, h.own.later hb, h.a, ownB h.bd hb, h.nm, h.p, h.low.trans (hb.mono h.ge.2), h.ge.1, Nat.le_trans h.ge.2 hb.size⟩
theorem QS.sto (h : QS w0 w R ts ns rs st en bs va vb nv sa sv so bv) : StoV w sa sv so st.A st.V st.O := by
  have := (StoO.mk h.out h.own).stoV
  rw [h.a] at this
  exact this
theorem avOf {B : Nat} {cs : List AR} {v : Value} (h : w.ownsRow B 85 2 v cs.length (acells cs)) : AV w 0 v cs := by
  rcases h.2 with ⟨e1, e0⟩ | ⟨g, cap, cur, e1, e2, e3, _⟩
  · exact ⟨Option.none, 0, by rw [e1, e0], .inl (List.length_eq_zero_iff.1 e0)⟩
  · refine ⟨_, cap, e1, .inr ⟨g, 0, rfl, Nat.zero_le _, lt_heap e3, fun i t hi => ?_⟩⟩
    subst e1
    have c := fun j u hj => own_cell h (j := j) (u := u) hj
    have hc : ∀ (l : List AR) (i : Nat), l[i]? = some t → (acells l)[i * 2]? = some (.string t.s) ∧ (acells l)[i * 2 + 1]? = some (.int .i64 t.n) := by
      intro l
      induction l with
      | nil => intro i h; simp at h
      | cons x l ih =>
        intro i h
        cases i with
        | zero => simp at h; subst h; exact ⟨rfl, rfl⟩
        | succ i =>
          have := ih i (by simpa using h)
          rw [show (i + 1) * 2 = i * 2 + 1 + 1 by omega]
          exact ⟨by simpa [acells] using this.1, by simpa [acells] using this.2⟩
    obtain ⟨h1, h2⟩ := hc cs i hi
    rw [Nat.zero_add]
    exact ⟨c _ _ h1, c _ _ h2⟩
theorem QS.rr (h : QS w0 w R ts ns rs st en bs va vb nv sa sv so bv) : RR w R ts ns st.A st.V bs va vb nv sa sv so (en : Int) bv (st.f : Int) :=
  ⟨h.blk, h.p.later h.low, h.nm.later h.low, h.sto.a, h.sto.v, avOf h.bd⟩
theorem QS.cells (h : QS w0 w R ts ns rs st en bs va vb nv sa sv so bv) :
    w.cell? ⟨R, 2, Option.none⟩ = some nv ∧ w.cell? ⟨R, 3, Option.none⟩ = some sa ∧ w.cell? ⟨R, 4, Option.none⟩ = some sv ∧ w.cell? ⟨R, 5, Option.none⟩ = some so ∧ w.cell? ⟨R, 6, Option.none⟩ = some (.int .i64 (en : Int)) ∧ w.cell? ⟨R, 7, Option.none⟩ = some bv ∧ w.cell? ⟨R, 8, Option.none⟩ = some (.int .i64 (st.f : Int)) ∧ ∀ j, w.frozen? ⟨R, j, Option.none⟩ = false := by
  refine ⟨?_, ?_, ?_, ?_, ?_, ?_, ?_, fun j => ?_⟩
  all_goals simp [World.cell?, World.frozen?, h.blk]
theorem QS.turn (h : QS w0 w R ts ns rs st en bs va vb nv sa sv so bv) (hg : w.grownBy w' (some R)) (hv : st'.V = st.V) (ho : st'.O = st.O) (ha : st'.A = st.A) (hbd : w.ownsRow w0.heap.size 85 2 bv' bs'.length (acells bs'))
    (hb : w'.heap[R]? = some (.cells #[va, vb, nv, sa, sv, so, .int .i64 (en' : Int), bv', .int .i64 (st'.f : Int)] 81 (0, 0))) : QS w0 w' R ts ns rs st' en' bs' va vb nv sa sv so bv' ∧ KQ R w w' := by
  refine ⟨⟨hb, ?_, ?_, h.a.trans ha.symm, ?_, h.nm, h.p, h.low.trans (below_of_grown hg (fun k hk => by injection hk with hk; have := h.ge.1; omega) h.ge.2), h.ge.1, Nat.le_trans h.ge.2 hg.size⟩, ?_⟩
  · exact ownG h.out hg (fun k hk ek => by injection ek with ek; subst ek; exact own_ne h.out h.blk (by decide) hk)
  · rw [hv, ho]
    exact ⟨fun r hr => ownG (h.own.own r hr) hg (fun k hk ek => by injection ek with ek; subst ek; exact own_ne (h.own.own r hr) h.blk (by decide) hk), h.own.apart⟩
  · exact ownG hbd hg (fun k hk ek => by injection ek with ek; subst ek; exact own_ne hbd h.blk (by decide) hk)
  · intro N ar t hN _ hh
    exact (hg.block N (lt_heap hh) (fun e => hN (by injection e))).trans hh
theorem QS.end_ (h : QS w0 w R ts ns rs st en bs va vb nv sa sv so bv) (k : Nat) : QS w0 (w.setCell ⟨R, 6, Option.none⟩ (.int .i64 (k : Int))) R ts ns rs st k bs va vb nv sa sv so bv ∧ KQ R w (w.setCell ⟨R, 6, Option.none⟩ (.int .i64 (k : Int))) := by
  have hb := Go.heap_setCell_same w R 6 _ _ (.int .i64 (k : Int)) h.blk
  exact h.turn (grownBy_set (g := R) ⟨R, 6, Option.none⟩ rfl _) rfl rfl rfl h.bd (by rw [hb]; rfl)
theorem QS.fuel (h : QS w0 w R ts ns rs st en bs va vb nv sa sv so bv) (m : Nat) (hm : st.f = m + 1) : QS w0 (w.setCell ⟨R, 8, Option.none⟩ (.int .i64 (m : Int))) R ts ns rs (burnt st) en bs va vb nv sa sv so bv ∧ KQ R w (w.setCell ⟨R, 8, Option.none⟩ (.int .i64 (m : Int))) := by
  have hb := Go.heap_setCell_same w R 8 _ _ (.int .i64 (m : Int)) h.blk
  refine h.turn (grownBy_set (g := R) ⟨R, 8, Option.none⟩ rfl _) rfl rfl rfl h.bd ?_
  rw [hb]
  have : ((burnt st).f : Int) = (m : Int) := by simp only [burnt]; omega
  rw [this]; rfl
theorem QS.binds (h : QS w0 w R ts ns rs st en bs va vb nv sa sv so bv) (hn : w.ownsRow w0.heap.size 85 2 bv' bs'.length (acells bs')) : QS w0 (w.setCell ⟨R, 7, Option.none⟩ bv') R ts ns rs st en bs' va vb nv sa sv so bv' ∧ KQ R w (w.setCell ⟨R, 7, Option.none⟩ bv') := by
  have hb := Go.heap_setCell_same w R 7 _ _ bv' h.blk
  exact h.turn (grownBy_set (g := R) ⟨R, 7, Option.none⟩ rfl _) rfl rfl rfl hn (by rw [hb]; rfl)
end
def SpR (w0 : World) (R : Nat) (ts : List AR) (ns : List ByteArray) (bs : List AR) (va vb nv sa sv : Value) (w : World) (r : Nat × St) (w' : World) : Prop :=
  ∃ rs' so' bv', QS w0 w' R ts ns rs' r.2 r.1 bs va vb nv sa sv so' bv' ∧ KQ R w w' ∧ w.heap.size ≤ w'.heap.size
set_option maxHeartbeats 1000000 in
set_option maxRecDepth 100000 in
theorem l7Fuel_is {w0 : World} {R : Nat} {ts : List AR} {ns : List ByteArray} {rs : List VR} {st : St} {en : Nat} {bs : List AR} {va vb nv sa sv so bv : Value} (hf : st.f ≤ 4000) (w : World) (h : QS w0 w R ts ns rs st en bs va vb nv sa sv so bv) :
    Calls Tryz.prog 92 #[.pointer (some ⟨R, 0, Option.none⟩)] w fun e w' => (¬ en = 0 ∧ e = .returned (.bool false) ∧ w' = w) ∨ (en = 0 ∧ st.f = 0 ∧ e = .returned (.bool false) ∧ QS w0 w' R ts ns rs st 2 bs va vb nv sa sv so bv ∧ KQ R w w' ∧ w.heap.size ≤ w'.heap.size) ∨ (en = 0 ∧ ¬ st.f = 0 ∧ e = .returned (.bool true) ∧ QS w0 w' R ts ns rs (burnt st) 0 bs va vb nv sa sv so bv ∧ KQ R w w' ∧ w.heap.size ≤ w'.heap.size) := by
  obtain ⟨_, _, _, _, c6, _, c8, fz⟩ := h.cells
  have f6 := fz 6
  have f8 := fz 8
  clear fz
  by_cases he : en = 0
  · subst he
    by_cases h0 : st.f = 0
    · have hz : (st.f : Int) = 0 := by omega
      rw [hz] at c8
      have T := hid (h.end_ 2)
      have H0 := hid h0
      clear h hz h0
      go_enter Tryz.func92, Tryz.ntmps92
      go_wp2
      go_ret
      exact .inr (.inl ⟨by trivial, H0.out, rfl, T.out.1, T.out.2, by rw [World.size_setCell]; exact Nat.le_refl _⟩)
    · obtain ⟨m, hm⟩ : ∃ m : Nat, st.f = m + 1 := ⟨st.f - 1, by omega⟩
      have hmI : (st.f : Int) = (m : Int) + 1 := by omega
      rw [hmI] at c8
      have T := hid (h.fuel m hm)
      have H0 := hid h0
      have hml : (m : Int) ≤ 4000 := by omega
      clear h h0 hm hmI
      go_enter Tryz.func92, Tryz.ntmps92
      go_wp2
      go_ret
      exact .inr (.inr ⟨by trivial, H0.out, rfl, T.out.1, T.out.2, by rw [World.size_setCell]; exact Nat.le_refl _⟩)
  · have hne : ((en : Int) == 0) = false := by simp; exact he
    have HE := hid he
    clear h he
    go_enter Tryz.func92, Tryz.ntmps92
    go_wp2
    go_ret
    exact .inl ⟨HE.out, rfl, rfl⟩
theorem value_s {w0 : World} {R : Nat} {ts : List AR} {ns : List ByteArray} {rs : List VR} {st : St} {en : Nat} {bs : List AR} {va vb nv sa sv so bv : Value} (hb : RB ts ns st) (hbl : bs.length ≤ 100000) (hvb : vb.oneCell' = true) (x : X) (ht : toldX 8 x = true) (w : World) (v : Value) (h : QS w0 w R ts ns rs st en bs va vb nv sa sv so bv) (hv : EV w 0 x.l v) :
    Calls Tryz.prog 53 #[.pointer (some ⟨R, 0, Option.none⟩), .agg #[.int .i64 x.h.k, .int .i64 x.h.n, .string x.h.s, v]] w fun e w' => e = valR (evS ts ns bs st x) ∧ Below w.heap.size w w' :=
  l7Exp_all ⟨hb.t, by have := hb.n; omega, by have := hb.a; omega, fun xs hx => by have := hb.b xs hx; omega, by have := hb.v; omega, by omega⟩ hvb 8 x w v ht hv h.rr
theorem QS.print {w0 w w4 w6 : World} {R g c : Nat} {ts : List AR} {ns : List ByteArray} {rs : List VR} {st : St} {en : Nat} {bs : List AR} {bv va vb nv sa sv so : Value} {n : Int} (h : QS w0 w R ts ns rs st en bs va vb nv sa sv so bv) (hb4 : Below w.heap.size w w4)
    (hown : w6.ownsRow w0.heap.size 3 1 (.slice (some ⟨g, 0, Option.none⟩) (st.O.length + 1) c) (st.O.length + 1) (ints st.O ++ [.int .i64 n])) (hg : w4.grownBy w6 so.ownBlock) (hat : so.ownBlock = some g ∨ g = w4.heap.size) :
    QS w0 (w6.setCell ⟨R, 5, Option.none⟩ (.slice (some ⟨g, 0, Option.none⟩) (st.O.length + 1) c)) R ts ns rs { st with O := st.O ++ [n] } en bs va vb nv sa sv (.slice (some ⟨g, 0, Option.none⟩) (st.O.length + 1) c) bv ∧ KQ R w (w6.setCell ⟨R, 5, Option.none⟩ (.slice (some ⟨g, 0, Option.none⟩) (st.O.length + 1) c)) := by
  have h4 := h.later hb4
  have hso := h4.own.own (so, st.O) (by simp)
  have e0 : (rs ++ [(sv, st.V), (so, st.O)]) = (rs ++ [(sv, st.V)]) ++ [(so, st.O)] := by simp
  have o4 : Owns w4 w0.heap.size ((rs ++ [(sv, st.V)]) ++ [(so, st.O)]) := by rw [← e0]; exact h4.own
  have o6 := o4.regrow (r' := (.slice (some ⟨g, 0, Option.none⟩) (st.O.length + 1) c, st.O ++ [n])) (H := w4.heap.size) hg (by rw [List.length_append]; simp only [ints, List.map_append]; exact hown) (fun k hk => by injection hk with hk; subst hk; exact hat) (Nat.le_refl _)
  have b6 : w6.heap[R]? = some (.cells #[va, vb, nv, sa, sv, so, .int .i64 (en : Int), bv, .int .i64 (st.f : Int)] 81 (0, 0)) := (hg.block R (lt_heap h4.blk) (fun e => own_ne hso h4.blk (by decide) e.symm)).trans h4.blk
  have hs := grownBy_set (w := w6) (g := R) ⟨R, 5, Option.none⟩ rfl (.slice (some ⟨g, 0, Option.none⟩) (st.O.length + 1) c)
  have sb := Go.heap_setCell_same w6 R 5 _ _ (.slice (some ⟨g, 0, Option.none⟩) (st.O.length + 1) c) b6
  have q6 : w6.ownsRow w0.heap.size 31 1 sa rs.length (rs.map (·.1)) := ownG h4.out hg (fun k hk => own_own h4.out hso (by decide) k hk)
  have n6 : w6.ownsRow w0.heap.size 85 2 bv bs.length (acells bs) := ownG h4.bd hg (fun k hk => own_own h4.bd hso (by decide) k hk)
  have l6 : Below w0.heap.size w0 w6 := h4.low.trans (below_of_grown hg (fun k hk => (hso.lt k hk).1) h4.ge.2)
  refine ⟨⟨by rw [sb]; rfl, ?_, ?_, h.a, ?_, h.nm, h.p, l6.setCell (p := ⟨R, 5, Option.none⟩) h.ge.1 _, h.ge.1, by rw [World.size_setCell]; exact Nat.le_trans h4.ge.2 hg.size⟩, ?_⟩
  · exact ownG q6 hs (fun k hk ek => by injection ek with ek; subst ek; exact own_ne q6 b6 (by decide) hk)
  · have e1 : (rs ++ [(sv, st.V), (Value.slice (some ⟨g, 0, Option.none⟩) (st.O.length + 1) c, st.O ++ [n])]) = (rs ++ [(sv, st.V)]) ++ [(.slice (some ⟨g, 0, Option.none⟩) (st.O.length + 1) c, st.O ++ [n])] := by simp
    rw [e1]
    exact ⟨fun r hr => ownG (o6.own r hr) hs (fun k hk ek => by injection ek with ek; subst ek; exact own_ne (o6.own r hr) b6 (by decide) hk), o6.apart⟩
  · exact ownG n6 hs (fun k hk ek => by injection ek with ek; subst ek; exact own_ne n6 b6 (by decide) hk)
  · intro N ar t hN ht hh
    have x4 := (hb4.block _ (lt_heap hh)).trans hh
    have x6 := (hg.block N (lt_heap x4) (fun e => own_ne hso x4 ht e.symm)).trans x4
    exact (Below.heap_setCell _ _ _ _ hN).trans x6
theorem QS.set {w0 w : World} {R g c k : Nat} {ts : List AR} {ns : List ByteArray} {rs : List VR} {st : St} {en : Nat} {bs : List AR} {bv va vb nv sa so : Value} {n : Int} (h : QS w0 w R ts ns rs st en bs va vb nv sa (.slice (some ⟨g, 0, Option.none⟩) st.V.length c) so bv) :
    QS w0 (w.setCell ⟨g, k, Option.none⟩ (.int .i64 n)) R ts ns rs { st with V := st.V.set k n } en bs va vb nv sa (.slice (some ⟨g, 0, Option.none⟩) st.V.length c) so bv ∧ KQ R w (w.setCell ⟨g, k, Option.none⟩ (.int .i64 n)) := by
  have hv := h.own.own (.slice (some ⟨g, 0, Option.none⟩) st.V.length c, st.V) (by simp)
  have hs := grownBy_set (w := w) (g := g) ⟨g, k, Option.none⟩ rfl (.int .i64 n)
  have hne : ∀ (N : Nat) (ar : Array Value) (t : TypeId), t ≠ 3 → w.heap[N]? = some (.cells ar t (0, 0)) → N ≠ g := fun N ar t ht hN e => own_ne hv hN ht (by rw [e]; rfl)
  have n1 := iown_put (j := k) hv (.int .i64 n)
  have e1 : (ints st.V).set k (.int .i64 n) = ints (st.V.set k n) := by simp only [ints, List.map_set]
  simp only at n1
  rw [e1] at n1
  refine ⟨⟨(hs.block R (lt_heap h.blk) (fun e => hne R _ _ (by decide) h.blk (by injection e))).trans h.blk, ?_, ?_, h.a, ?_, h.nm, h.p, h.low.setCell (p := ⟨g, k, Option.none⟩) (hv.lt g rfl).1 _, h.ge.1, by rw [World.size_setCell]; exact h.ge.2⟩, ?_⟩
  · exact ownG h.out hs (fun k hk => own_own h.out hv (by decide) k hk)
  · exact Owns.put (P := rs) (Q := [(so, st.O)]) (r := (.slice (some ⟨g, 0, Option.none⟩) st.V.length c, st.V)) (r' := (.slice (some ⟨g, 0, Option.none⟩) st.V.length c, st.V.set k n)) h.own rfl hs (by rw [List.length_set]; exact n1)
  · exact ownG h.bd hs (fun k hk => own_own h.bd hv (by decide) k hk)
  · intro N ar t _ ht hh
    exact (Below.heap_setCell _ _ _ _ (hne N ar t ht hh)).trans hh
theorem QS.put {w0 w : World} {R g c k m : Nat} {ts : List AR} {ns : List ByteArray} {rs : List VR} {st : St} {en : Nat} {bs : List AR} {bv va vb nv sa sv so : Value} {n : Int} {xs : List Int} (h : QS w0 w R ts ns rs st en bs va vb nv sa sv so bv) (hr : rs[k]? = some (.slice (some ⟨g, 0, Option.none⟩) xs.length c, xs)) :
    QS w0 (w.setCell ⟨g, m, Option.none⟩ (.int .i64 n)) R ts ns (rs.set k (.slice (some ⟨g, 0, Option.none⟩) xs.length c, xs.set m n)) { st with A := st.A.modify k fun ys => ys.set m n } en bs va vb nv sa sv so bv ∧ KQ R w (w.setCell ⟨g, m, Option.none⟩ (.int .i64 n)) := by
  have hmem : ((.slice (some ⟨g, 0, Option.none⟩) xs.length c, xs) : VR) ∈ rs := List.mem_of_getElem? hr
  have hkl : k < rs.length := (List.getElem?_eq_some_iff.1 hr).1
  have hv := h.own.own (.slice (some ⟨g, 0, Option.none⟩) xs.length c, xs) (List.mem_append_left _ hmem)
  have hs := grownBy_set (w := w) (g := g) ⟨g, m, Option.none⟩ rfl (.int .i64 n)
  have hne : ∀ (N : Nat) (ar : Array Value) (t : TypeId), t ≠ 3 → w.heap[N]? = some (.cells ar t (0, 0)) → N ≠ g := fun N ar t ht hN e => own_ne hv hN ht (by rw [e]; rfl)
  have n1 := iown_put (j := m) hv (.int .i64 n)
  have e1 : (ints xs).set m (.int .i64 n) = ints (xs.set m n) := by simp only [ints, List.map_set]
  simp only at n1
  rw [e1] at n1
  have e2 : rs = rs.take k ++ (.slice (some ⟨g, 0, Option.none⟩) xs.length c, xs) :: rs.drop (k + 1) := by rw [← drop_step hr, List.take_append_drop]
  have e3 : rs.set k (.slice (some ⟨g, 0, Option.none⟩) xs.length c, xs.set m n) = rs.take k ++ (.slice (some ⟨g, 0, Option.none⟩) xs.length c, xs.set m n) :: rs.drop (k + 1) := List.set_eq_take_append_cons_drop .. |>.trans (by rw [if_pos hkl])
  have e4 : (rs.set k (.slice (some ⟨g, 0, Option.none⟩) xs.length c, xs.set m n)).map (·.1) = rs.map (·.1) := by
    rw [List.map_set]
    apply List.ext_getElem?
    intro i
    rw [List.getElem?_set]
    split
    · rename_i hik; subst hik
      rw [List.getElem?_map, hr]; simp [hkl]
    · rfl
  refine ⟨⟨(hs.block R (lt_heap h.blk) (fun e => hne R _ _ (by decide) h.blk (by injection e))).trans h.blk, ?_, ?_, ?_, ?_, h.nm, h.p, h.low.setCell (p := ⟨g, m, Option.none⟩) (hv.lt g rfl).1 _, h.ge.1, by rw [World.size_setCell]; exact h.ge.2⟩, ?_⟩
  · rw [e4, List.length_set]
    exact ownG h.out hs (fun k hk => own_own h.out hv (by decide) k hk)
  · rw [e3, List.append_assoc, List.cons_append]
    refine Owns.put (P := rs.take k) (Q := rs.drop (k + 1) ++ [(sv, st.V), (so, st.O)]) (r := (.slice (some ⟨g, 0, Option.none⟩) xs.length c, xs)) (r' := (.slice (some ⟨g, 0, Option.none⟩) xs.length c, xs.set m n)) ?_ rfl hs (by rw [List.length_set]; exact n1)
    have := h.own
    rw [e2, List.append_assoc, List.cons_append] at this
    simpa using this
  · rw [List.map_set]
    apply List.ext_getElem?
    intro i
    rw [List.getElem?_set, List.getElem?_modify, ← h.a, List.getElem?_map]
    split
    · rename_i hik; subst hik
      rw [hr]; simp [hkl]
    · simp [List.getElem?_map]
  · exact ownG h.bd hs (fun k hk => own_own h.bd hv (by decide) k hk)
  · intro N ar t _ ht hh
    exact (Below.heap_setCell _ _ _ _ (hne N ar t ht hh)).trans hh
theorem rowAtQ {w0 w : World} {R k go oo g off len c : Nat} {ts : List AR} {ns : List ByteArray} {rs : List VR} {st : St} {en : Nat} {bs : List AR} {bv va vb nv sv so : Value} {a : Option Addr} {n1 c1 : Nat} (h : QS w0 w R ts ns rs st en bs va vb nv (.slice a n1 c1) sv so bv) (ha : a = some ⟨go, oo, Option.none⟩) (hc : w.cell? ⟨go, oo + k, Option.none⟩ = some (.slice (some ⟨g, off, Option.none⟩) len c)) (hk : k < rs.length) : ∃ r, rs[k]? = some r ∧ r.1 = .slice (some ⟨g, off, Option.none⟩) len c := by
  subst ha
  have hr : rs[k]? = some rs[k] := List.getElem?_eq_getElem hk
  refine ⟨rs[k], hr, ?_⟩
  rcases h.out.2 with ⟨e, _⟩ | ⟨g', cap', cur, e1, _⟩
  · cases e
  · injection e1 with e1 e2 e3
    injection e1 with e1
    injection e1 with e1 e4
    subst e1; subst e4; subst e2; subst e3
    have := own_cell h.out (j := k) (u := (rs[k]).1) (by rw [List.getElem?_map, hr]; rfl)
    rw [Nat.zero_add, this] at hc
    injection hc
theorem rowShapeQ {w0 w : World} {R k g off len c : Nat} {ts : List AR} {ns : List ByteArray} {rs : List VR} {st : St} {en : Nat} {bs : List AR} {bv va vb nv sa sv so : Value} {r : VR} (h : QS w0 w R ts ns rs st en bs va vb nv sa sv so bv) (hr : rs[k]? = some r) (e : r.1 = .slice (some ⟨g, off, Option.none⟩) len c) : off = 0 ∧ len = r.2.length := by
  rcases (h.own.own r (List.mem_append_left _ (List.mem_of_getElem? hr))).2 with ⟨e0, _⟩ | ⟨g', cap', cur, e1, _⟩
  · rw [e] at e0; cases e0
  · rw [e] at e1
    injection e1 with e1 e2 e3
    injection e1 with e1
    injection e1 with e1 e4
    exact ⟨e4, e2⟩
theorem rowFreeQ {w0 w : World} {R k g off len c : Nat} {ts : List AR} {ns : List ByteArray} {rs : List VR} {st : St} {en : Nat} {bs : List AR} {bv va vb nv sa sv so : Value} {r : VR} (h : QS w0 w R ts ns rs st en bs va vb nv sa sv so bv) (hr : rs[k]? = some r) (e : r.1 = .slice (some ⟨g, off, Option.none⟩) len c) (j : Nat) : w.frozen? ⟨g, j, Option.none⟩ = false := by
  rcases (h.own.own r (List.mem_append_left _ (List.mem_of_getElem? hr))).2 with ⟨e0, _⟩ | ⟨g', cap', cur, e1, _, e3, _⟩
  · rw [e] at e0; cases e0
  · rw [e] at e1
    injection e1 with e1 _ _
    injection e1 with e1
    injection e1 with e1 _
    subst e1
    simp [World.frozen?, e3]
end Go.Proofs.YtfoghiminlbdaaaGreat
