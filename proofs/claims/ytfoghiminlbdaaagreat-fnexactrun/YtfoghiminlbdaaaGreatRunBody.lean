/-
  One hand at work, the specification: l7Body.
-/
import Derived.Test.YtfoghiminlbdaaaGreatZp
import Derived.Test.YtfoghiminlbdaaaGreatRunFor
namespace Go.Proofs.YtfoghiminlbdaaaGreat
open Go.RowKit Go.Lib
set_option linter.unusedSimpArgs false
set_option linter.unusedVariables false
structure BdR (w0 w : World) (R : Nat) (ts : List AR) (ns : List ByteArray) (vn : Nat) (va vb nv sa sv : Value) (bs : List AR) (F : SF) (b o k : Nat) (tot : Nat × St) (g : Nat) (Rm : SF) (g' : Nat) (st : St) (rs : List VR) (so bv : Value) (en : Nat) (wr : World) : Prop where
  q : QS w0 wr R ts ns rs st en bs va vb nv sa sv so bv
  f : Fine ts ns vn bs st
  way : (en = 0 ∧ st.f < g' ∧ g' ≤ g ∧ tot = exec ts ns g' bs (.inl Rm) st) ∨ (¬ en = 0 ∧ tot = (en, st))
  n : k + slen Rm = slen F
  ok : rdyF ns vn Rm ∧ snodes Rm ≤ 1048576 ∧ bs.length + snodes Rm ≤ 100000
  at_ : SIn w0 0 Rm b (o + k * 19)
  kq : KQ R w wr
  sz : w.heap.size ≤ wr.heap.size
set_option maxHeartbeats 8000000 in
set_option maxRecDepth 100000 in
theorem l7Body_of {w0 : World} {R : Nat} {ts : List AR} {ns : List ByteArray} {vn : Nat} {va vb nv sa sv : Value} (hvb : vb.oneCell' = true) {g : Nat} (IH : ∀ g', g' < g → SBodyC w0 R ts ns vn va vb nv sa sv g') : SBodyC w0 R ts ns vn va vb nv sa sv g := by
  intro F bs st rs so bv w u hF hFl hbl hf hg hr hu
  obtain ⟨b, o, a, c, rfl, ha, _, hin⟩ := hu
  obtain ⟨tot, htot⟩ : ∃ tot, exec ts ns g bs (.inl F) st = tot := ⟨_, rfl⟩
  have HI := hid IH
  have HVB := hid hvb
  have L0 : Hid (BdR w0 w R ts ns vn va vb nv sa sv bs F b o 0 tot g F g st rs so bv 0 w) := ⟨hr, hf, .inl ⟨rfl, hg, Nat.le_refl _, htot.symm⟩, by omega, ⟨hF, hFl, hbl⟩, by simpa using hin, KQ.refl _ _, Nat.le_refl _⟩
  have hsl : slen F ≤ 1048576 := Nat.le_trans (slen_le F) hFl
  have HA := hid ha
  rw [htot]
  clear IH hvb htot hr hf hF hFl hg hin ha hbl
  go_enter Tryz.func44, Tryz.ntmps44
  go_wp2
  go_loopw [4] (fun i wr => ∃ (k : Nat) (Rm : SF) (g' : Nat) (st : St) (rs : List VR) (so bv : Value) (en : Nat), i = .int .i64 (k : Int) ∧ Hid (BdR w0 w R ts ns vn va vb nv sa sv bs F b o k tot g Rm g' st rs so bv en wr)) (fun i _ => slen F - (RowKit.intOf i).toNat)
  case atStart => exact ⟨0, F, g, st, rs, so, bv, 0, rfl, L0.out⟩
  case round =>
    obtain ⟨k, Rm, g', st1, rs1, so1, bv1, en, rfl, hL⟩ := hrel
    clear L0
    cases Rm with
    | nil =>
      have hk : ¬ (k : Int) < (slen F : Int) := by have := hL.out.n; simp only [slen] at this; omega
      have e0 : Hid (tot = (en, st1)) := by
        show _ = _
        rcases hL.out.way with ⟨h0, h1, h2, h3⟩ | ⟨_, h1⟩
        · obtain ⟨g2, rfl⟩ : ∃ q, g' = q + 1 := ⟨g' - 1, by omega⟩
          rw [h3, exec, h0]
        · exact h1
      go_wp2
      go_end0
      exact ⟨rfl, rs1, so1, bv1, (by rw [e0.out]; exact hL.out.q), hL.out.kq, hL.out.sz⟩
    | node p' q' h l r =>
      have hlt : (k : Int) < (slen F : Int) := by have := hL.out.n; simp only [slen] at this; omega
      have hne : ¬ F = .nil := by intro e; have := hL.out.n; rw [e] at this; simp only [slen] at this; omega
      obtain rfl : a = some ⟨b, o, Option.none⟩ := HA.out.resolve_right hne
      have hf4 := hL.out.f.rb.f
      clear hne
      go_wp2_with fail
      refine (l7Fuel_is hf4 wr hL.out.q).mono ?_
      rintro e w3 hw3
      have hw4 : (e = .returned (.bool false) ∧ ∃ en', QS w0 w3 R ts ns rs1 st1 en' bs va vb nv sa sv so1 bv1 ∧ tot = (en', st1) ∧ KQ R w w3 ∧ w.heap.size ≤ w3.heap.size) ∨ (e = .returned (.bool true) ∧ ¬ st1.f = 0 ∧ QS w0 w3 R ts ns rs1 (burnt st1) 0 bs va vb nv sa sv so1 bv1 ∧ KQ R wr w3 ∧ wr.heap.size ≤ w3.heap.size ∧ st1.f < g' ∧ g' ≤ g ∧ tot = exec ts ns g' bs (.inl (.node p' q' h l r)) st1) := by
        rcases hw3 with ⟨he, e1, rfl⟩ | ⟨he, hz, e1, hq, hk, hs⟩ | ⟨he, hz, e1, hq, hk, hs⟩
        · refine .inl ⟨e1, en, hL.out.q, ?_, hL.out.kq, hL.out.sz⟩
          rcases hL.out.way with ⟨h0, _⟩ | ⟨_, h1⟩
          · exact absurd h0 he
          · exact h1
        · refine .inl ⟨e1, 2, hq, ?_, hL.out.kq.trans hk, Nat.le_trans hL.out.sz hs⟩
          rcases hL.out.way with ⟨_, h1, _, h2⟩ | ⟨h1, _⟩
          · obtain ⟨g2, rfl⟩ : ∃ k, g' = k + 1 := ⟨g' - 1, by omega⟩
            rw [h2, exec, if_pos hz]
          · exact absurd he h1
        · rcases hL.out.way with ⟨_, h1, h2, h3⟩ | ⟨h1, _⟩
          · exact .inr ⟨e1, hz, hq, hk, hs, h1, h2, h3⟩
          · exact absurd he h1
      clear hw3
      rcases hw4 with ⟨rfl, en', hq, ht, hk3, hs3⟩ | ⟨rfl, hz, hq, hk3, hs3, hfg, hgg, htot⟩
      · have XR := hid hq
        have XT := hid ht
        have XK := hid (And.intro hk3 hs3)
        clear hq ht hk3 hs3 hL
        go_wp2
        go_end0
        exact ⟨rfl, rs1, so1, bv1, (by rw [XT.out]; exact XR.out), XK.out.1, XK.out.2⟩
      · obtain ⟨g2, rfl⟩ : ∃ k, g' = k + 1 := ⟨g' - 1, by omega⟩
        have HZ := hid hz
        have okh : rdyS ns vn h ∧ rdyF ns vn l ∧ rdyF ns vn r := hL.out.ok.1
        have hno : snodes l ≤ 1048576 ∧ snodes r ≤ 1048576 ∧ bs.length + 1 + snodes l ≤ 100000 ∧ bs.length + snodes r ≤ 100000 := by have := hL.out.ok.2; simp only [snodes] at this; omega
        have FX := hid (one_fine (g := g2) okh.1 okh.2.1 hL.out.f)
        have LX : Hid ((oneR ts ns g2 bs h l st1).1 = 0 → (oneR ts ns g2 bs h l st1).2.f < g2) := fun e => one_less e hfg
        have TX : Hid (tot = andThen (oneR ts ns g2 bs h l st1) fun s' => exec ts ns g2 bs (.inl r) s') := show _ = _ by rw [htot, exec_one]
        have O1 : Hid (oneR ts ns g2 bs h l st1 = stepS ts ns bs h (burnt st1) fun lo hi s' => exec ts ns g2 bs (.inr (h.s, l, lo, hi)) s') := show _ = _ by rw [oneR, if_neg hz]
        obtain ⟨rr, hrr⟩ : ∃ rr, oneR ts ns g2 bs h l st1 = rr := ⟨_, rfl⟩
        rw [hrr] at FX LX TX O1
        have HRR : Hid (stepS ts ns bs h (burnt st1) (fun lo hi s' => exec ts ns g2 bs (.inr (h.s, l, lo, hi)) s') = rr) := O1.out.symm
        have WAY : Hid ((rr.1 = 0 ∧ rr.2.f < g2 ∧ g2 ≤ g ∧ tot = exec ts ns g2 bs (.inl r) rr.2) ∨ (¬ rr.1 = 0 ∧ tot = (rr.1, rr.2))) := by
          by_cases h0 : rr.1 = 0
          · exact .inl ⟨h0, LX.out h0, by omega, by rw [TX.out, andThen, if_pos h0]⟩
          · exact .inr ⟨h0, by rw [TX.out, andThen, if_neg h0]⟩
        have R3 := hid hq
        have K3 := hid (And.intro (hL.out.kq.trans hk3) (Nat.le_trans hL.out.sz hs3))
        have FB := hid (hL.out.f.burn hz)
        have HG : Hid (g2 < g ∧ (burnt st1).f < g2) := ⟨by omega, by show st1.f - 1 < g2; omega⟩
        have N6 : Hid (k + 1 + slen r = slen F ∧ SIn w0 0 r b (o + (k + 1) * 19)) := ⟨by have := hL.out.n; simp only [slen] at this; omega, by rw [show o + (k + 1) * 19 = o + k * 19 + 19 by omega]; exact (SIn_node.1 hL.out.at_).2⟩
        have OK6 : Hid (rdyF ns vn r ∧ snodes r ≤ 1048576 ∧ bs.length + snodes r ≤ 100000) := ⟨okh.2.2, hno.2.1, hno.2.2.2⟩
        have HL := hid (And.intro okh.2.1 (And.intro hno.1 hno.2.2.1))
        have HBL : Hid (bs.length ≤ 100000) := show _ ≤ _ by omega
        have HS := hid okh.1
        obtain ⟨v1, v2, v3, v4, u, hu, hul, hrg⟩ := (SIn_node.1 hL.out.at_).1.range
        have Hrg := hid (rangeAt_later hrg R3.out.low)
        have HU := hid hu
        have HUL := hid hul
        have o1 := hu.e1.isOne
        have o2 := hu.e2.isOne
        have o3 := hu.e3.isOne
        have o4 := hu.e4.isOne
        have o5 := hul.isOne
        obtain ⟨ua, uc, rfl⟩ := hul.shape
        clear hrg hu hul hz hq hk3 hs3 hfg hgg htot hrr LX TX O1 hL okh hno
        rcases HS.out with ⟨hk, ht, kv, hi, hkv⟩ | ⟨hk, ht1, ht⟩ | ⟨hk, ht3, ht4⟩ | ⟨hk, ht⟩
        · have b1 : (h.k == 1) = true := by rw [hk]; rfl
          have b2 : (h.k == 2) = false := by rw [hk]; rfl
          have b3 : (h.k == 3) = false := by rw [hk]; rfl
          have HT := hid ht
          have E : Hid (rr = simple ts ns bs h (burnt st1)) := show _ = _ by rw [← HRR.out, stepS, if_neg (by omega)]
          have hsim : Hid ((evS ts ns bs (burnt st1) h.x2 = none → rr = (1, burnt st1)) ∧ ∀ n, evS ts ns bs (burnt st1) h.x2 = some n → rr = (0, { burnt st1 with V := (burnt st1).V.set kv n })) :=
            ⟨fun e => by rw [E.out, simple, if_pos hk, e], fun n e => by rw [E.out, simple, if_pos hk, e, hi]; rfl⟩
          have HKV : Hid (idxGo ns 0 h.s = (kv : Int) ∧ kv < (burnt st1).V.length) := ⟨hi, by have := FB.out.1.n; omega⟩
          obtain ⟨gv, cv, hsv⟩ : ∃ g c, sv = .slice (some ⟨g, 0, Option.none⟩) (burnt st1).V.length c := by
            have := R3.out.own.own (sv, (burnt st1).V) (by simp)
            obtain ⟨q, hq⟩ : ∃ q, (burnt st1).V.length = q + 1 := ⟨(burnt st1).V.length - 1, by have := HKV.out.2; omega⟩
            simp only [hq] at this
            obtain ⟨g, c, e, _⟩ := own_some this
            exact ⟨g, c, by rw [hq]; exact e⟩
          have HSV := hid hsv
          clear ht hi hkv E HRR hsv hk
          go_wp2_with (first | (refine wpList_load_mid rfl 119 _ rfl b (o + k * 19) rfl _ _ Hrg.out Tryz.underlying119 rfl sizeIS ?_) | (refine store_abs rfl 119 _ _ rfl _ _ _ rfl rfl ?ht1 sizeIS ?ho1 ?_; exact (newthere w3 _); exact (oneS h v1 v2 v3 v4 _ o1 o2 o3 o4 o5); intro W hW; have HW := hid (newblkS h v1 v2 v3 v4 _ hW); have c0 : W.cell? ⟨w3.heap.size, 0, Option.none⟩ = some (.int .i64 h.k) := HW.out.1 0 _ rfl; clear hW) | (refine wpList_load_mid rfl 43 _ rfl w3.heap.size 6 rfl _ _ (boxX2 HW.out.1) Tryz.underlying43 rfl sizeExp4 ?_))
          refine (value_s FB.out.1.rb HBL.out HVB.out h.x2 HT.out _ v2 (R3.out.later HW.out.2) (HU.out.e2.later (R3.out.later HW.out.2).low)).mono ?_
          rintro e w4 ⟨he, hb4⟩
          have B4 := hid (HW.out.2.trans (hb4.mono HW.out.2.size))
          have R4 := hid (R3.out.later B4.out)
          have G4 := hid (rangeAt_later HW.out.1 hb4)
          have c04 := keeps hb4 c0
          obtain ⟨r2, hr2⟩ : ∃ r, evS ts ns bs (burnt st1) h.x2 = r := ⟨_, rfl⟩
          rw [hr2] at he hsim
          clear hb4 hr2 c0 HW R3 Hrg
          cases r2 with
          | none =>
            obtain rfl : e = .returned (.tuple #[.int .i64 0, .bool false]) := he
            have hs1 := hid (hsim.out.1 rfl)
            have T := hid (R4.out.end_ 1)
            obtain ⟨_, _, _, _, c6, _, _, fz⟩ := R4.out.cells
            have f6 := fz 6
            clear fz
            go_wp2
            go_roundw
            case measure => simp [RowKit.intOf]; omega
            case rel => exact ⟨k + 1, r, g2, rr.2, rs1, so1, bv1, rr.1, by simp, ⟨by rw [hs1.out]; exact T.out.1, FX.out, WAY.out, N6.out.1, OK6.out, N6.out.2, K3.out.1.trans ((KQ.of B4.out).trans T.out.2), by show w.heap.size ≤ (w4.setCell ⟨R, 6, Option.none⟩ (.int .i64 1)).heap.size; rw [World.size_setCell]; exact Nat.le_trans K3.out.2 B4.out.size⟩⟩
          | some n =>
            obtain rfl : e = .returned (.tuple #[.int .i64 n, .bool true]) := he
            have hs1 := hid (hsim.out.2 n rfl)
            clear hsim
            rw [HSV.out] at R4
            go_wp2_with fail
            have bd : Below w4.heap.size w4 w4.drew := (Below.refl _ w4).drew
            have Rd := hid (R4.out.later bd)
            have Bd := hid (B4.out.trans (bd.mono B4.out.size))
            have cS := rangeAt_later G4.out bd 1 _ rfl
            rw [Nat.zero_add] at cS
            obtain ⟨c2, _, c4, _, _, _, _, _⟩ := Rd.out.cells
            obtain ⟨a2, b2', hnv⟩ := Rd.out.nm.shape
            have HNV := hid hnv
            rw [hnv] at c2
            clear bd hnv
            obtain ⟨W4, hW4⟩ : ∃ W4, w4.drew = W4 := ⟨_, rfl⟩
            refine wp_region_last (fun w' => w'.cell? ⟨R, 4, Option.none⟩ = some (.slice (some ⟨gv, 0, Option.none⟩) (burnt st1).V.length cv) ∧ w'.cell? ⟨R, 2, Option.none⟩ = some (.slice a2 ns.length b2') ∧ w'.cell? ⟨w3.heap.size, 1, Option.none⟩ = some (.string h.s)) 14 (by kernel_rfl) ?_
            rw [hW4] at Rd Bd c2 c4 cS ⊢
            clear hW4
            have hS := And.intro c4 (And.intro c2 cS)
            clear c4 c2 cS
            refine wpAnyL_take (i := 0) (v := .pointer (some ⟨R, 0, Option.none⟩)) rfl (by kernel_rfl) (by kernel_rfl) (by kernel_rfl) (by kernel_rfl) (fun _ _ _ h => h) (Or.inl ⟨by rfl, ?sa0⟩) hS ?_
            case sa0 => intro w hSw; go_simp
            simp only [Act.put, zp]
            refine wpAnyL_take (i := 1) (v := .pointer (some ⟨R, 0, Option.none⟩)) rfl (by kernel_rfl) (by kernel_rfl) (by kernel_rfl) (by kernel_rfl) (fun _ _ _ h => h) (Or.inl ⟨by rfl, ?sa1⟩) hS ?_
            case sa1 => intro w hSw; go_simp
            simp only [Act.put, zp]
            refine wpAnyL_take (i := 2) (v := .pointer (some ⟨R, 3, Option.none⟩)) rfl (by kernel_rfl) (by kernel_rfl) (by kernel_rfl) (by kernel_rfl) (fun _ _ _ h => h) (Or.inl ⟨by rfl, ?sa2⟩) hS ?_
            case sa2 => intro w hSw; go_simp
            simp only [Act.put, zp]
            refine wpAnyL_take (i := 3) (v := .pointer (some ⟨R, 4, Option.none⟩)) rfl (by kernel_rfl) (by kernel_rfl) (by kernel_rfl) (by kernel_rfl) (fun _ _ _ h => h) (Or.inl ⟨by rfl, ?sa3⟩) hS ?_
            case sa3 => intro w hSw; go_simp
            simp only [Act.put, zp]
            refine wpAnyL_take (i := 4) (v := .slice (some ⟨gv, 0, Option.none⟩) (burnt st1).V.length cv) rfl (by kernel_rfl) (by kernel_rfl) (by kernel_rfl) (by kernel_rfl) (fun _ _ _ h => h) (Or.inl ⟨by rfl, ?sa4⟩) hS ?_
            case sa4 => intro w hSw; have h1 := hSw.1; go_simp
            simp only [Act.put, zp]
            refine wpAnyL_take (i := 5) (v := .pointer (some ⟨R, 0, Option.none⟩)) rfl (by kernel_rfl) (by kernel_rfl) (by kernel_rfl) (by kernel_rfl) (fun _ _ _ h => h) (Or.inl ⟨by rfl, ?sa5⟩) hS ?_
            case sa5 => intro w hSw; go_simp
            simp only [Act.put, zp]
            refine wpAnyL_take (i := 6) (v := .pointer (some ⟨R, 0, Option.none⟩)) rfl (by kernel_rfl) (by kernel_rfl) (by kernel_rfl) (by kernel_rfl) (fun _ _ _ h => h) (Or.inl ⟨by rfl, ?sa6⟩) hS ?_
            case sa6 => intro w hSw; go_simp
            simp only [Act.put, zp]
            refine wpAnyL_take (i := 7) (v := .pointer (some ⟨R, 2, Option.none⟩)) rfl (by kernel_rfl) (by kernel_rfl) (by kernel_rfl) (by kernel_rfl) (fun _ _ _ h => h) (Or.inl ⟨by rfl, ?sa7⟩) hS ?_
            case sa7 => intro w hSw; go_simp
            simp only [Act.put, zp]
            refine wpAnyL_take (i := 8) (v := .slice a2 ns.length b2') rfl (by kernel_rfl) (by kernel_rfl) (by kernel_rfl) (by kernel_rfl) (fun _ _ _ h => h) (Or.inl ⟨by rfl, ?sa8⟩) hS ?_
            case sa8 => intro w hSw; have h1 := hSw.2.1; go_simp
            simp only [Act.put, zp]
            refine wpAnyL_take (i := 9) (v := .pointer (some ⟨w3.heap.size, 1, Option.none⟩)) rfl (by kernel_rfl) (by kernel_rfl) (by kernel_rfl) (by kernel_rfl) (fun _ _ _ h => h) (Or.inl ⟨by rfl, ?sa9⟩) hS ?_
            case sa9 => intro w hSw; go_simp
            simp only [Act.put, zp]
            refine wpAnyL_take (i := 10) (v := .string h.s) rfl (by kernel_rfl) (by kernel_rfl) (by kernel_rfl) (by kernel_rfl) (fun _ _ _ h => h) (Or.inl ⟨by rfl, ?sa10⟩) hS ?_
            case sa10 => intro w hSw; have h1 := hSw.2.2; go_simp
            simp only [Act.put, zp]
            refine wpAnyL_take (i := 12) (v := .int .i64 n) rfl (by kernel_rfl) (by kernel_rfl) (by kernel_rfl) (by kernel_rfl) (fun _ _ _ h => h) (Or.inl ⟨by rfl, ?sa12⟩) hS ?_
            case sa12 => intro w hSw; go_simp
            simp only [Act.put, zp]
            refine wpAnyL_ready (rs := [11]) (by kernel_rfl) (by simp) ?_
            refine AllReadyL.cons rfl (fun K hK => ?_) AllReadyL.nil
            rw [if_pos (by rfl)]
            simp only [zq]
            go_wp2_with fail
            refine (l7At_is ns (by have := FB.out.1.rb.n; omega) h.s _ _ (by rw [← HNV.out]; exact Rd.out.nm.later Rd.out.low)).mono ?_
            rintro e w5 ⟨rfl, rfl⟩
            rw [HKV.out.1]
            go_wp2_with fail
            refine hK.out _ _ (fun _ => hS) ?_
            clear hK
            have hkvI : (kv : Int) < ((burnt st1).V.length : Int) := by have := HKV.out.2; omega
            have hvI : ((burnt st1).V.length : Int) ≤ 1048576 := by have := FB.out.1.rb.v; omega
            refine wpAnyL_take (i := 13) (v := .pointer (some ⟨gv, kv, Option.none⟩)) rfl (by kernel_rfl) (by kernel_rfl) (by kernel_rfl) (by kernel_rfl) (fun _ _ _ h => h) (Or.inl ⟨by rfl, ?sb13⟩) hS ?_
            case sb13 => intro w hSw; go_simp
            simp only [Act.put, zp]
            have T := hid (Rd.out.set (k := kv) (n := n))
            have hv0 := Rd.out.own.own (.slice (some ⟨gv, 0, Option.none⟩) (burnt st1).V.length cv, (burnt st1).V) (by simp)
            obtain ⟨x, hx⟩ : ∃ x, (ints (burnt st1).V)[kv]? = some x := ⟨(ints (burnt st1).V)[kv]'(by rw [ints_len]; exact HKV.out.2), List.getElem?_eq_getElem _⟩
            obtain ⟨d0, d1⟩ := iown_cell hv0 hx
            clear hv0 hx hS
            refine wpAnyL_ready (rs := [14]) (by kernel_rfl) (by simp) ?_
            refine AllReadyL.cons rfl (fun K hK => ?_) AllReadyL.nil
            rw [if_pos (by rfl)]
            simp only [zq]
            go_wp2_with fail
            refine hK.out _ _ (fun e => absurd rfl e) ?_
            clear hK
            refine wpAnyL_done (by kernel_rfl) ?_ _
            go_wp2
            go_roundw
            case measure => simp [RowKit.intOf]; omega
            case rel => exact ⟨k + 1, r, g2, rr.2, rs1, so1, bv1, rr.1, by simp, ⟨by rw [hs1.out]; rw [HSV.out]; exact T.out.1, FX.out, WAY.out, N6.out.1, OK6.out, N6.out.2, K3.out.1.trans ((KQ.of Bd.out).trans T.out.2), by rw [World.size_setCell]; exact Nat.le_trans K3.out.2 Bd.out.size⟩⟩
        · have b2 : (h.k == 2) = true := by rw [hk]; rfl
          have b3 : (h.k == 3) = false := by rw [hk]; rfl
          have E : Hid (simple ts ns bs h (burnt st1) = rr) := show _ = _ by rw [← HRR.out, stepS, if_neg (by omega)]
          have C : Hid (∀ W, Below w3.heap.size w3 W → Calls Tryz.prog 94 #[.pointer (some ⟨R, 0, Option.none⟩), sagg h v1 v2 v3 v4 (.slice ua (slen l) uc)] W fun e w' => e = .returned (.tuple #[]) ∧ SpR w0 R ts ns bs va vb nv sa sv W rr w') := fun W hb => by
            have := l7Put_is FB.out.1.rb HBL.out FB.out.1.al HVB.out h (by omega) hk ht1 ht W v1 v2 v3 v4 (.slice ua (slen l) uc) (R3.out.later hb) (HU.out.later (R3.out.later hb).low)
            rw [E.out] at this
            exact this
          clear hk ht ht1
          go_wp2_with (first | (refine wpList_load_mid rfl 119 _ rfl b (o + k * 19) rfl _ _ Hrg.out Tryz.underlying119 rfl sizeIS ?_) | (refine store_abs rfl 119 _ _ rfl _ _ _ rfl rfl ?ht3 sizeIS ?ho3 ?_; exact (newthere w3 _); exact (oneS h v1 v2 v3 v4 _ o1 o2 o3 o4 o5); intro W hW; have HW := hid (newblkS h v1 v2 v3 v4 _ hW); have c0 : W.cell? ⟨w3.heap.size, 0, Option.none⟩ = some (.int .i64 h.k) := HW.out.1 0 _ rfl; clear hW) | (refine wpList_load_mid rfl 119 _ rfl w3.heap.size 0 rfl _ _ HW.out.1 Tryz.underlying119 rfl sizeIS ?_))
          refine (C.out W HW.out.2).mono ?_
          rintro e w4 ⟨rfl, rs6, so6, bv6, hq6, hk6, hs6⟩
          have X6 := hid (And.intro hq6 (And.intro (K3.out.1.trans ((KQ.of HW.out.2).trans hk6)) (Nat.le_trans K3.out.2 (Nat.le_trans HW.out.2.size hs6))))
          clear hq6 hk6 hs6 HW c0
          go_wp2
          go_roundw
          case measure => simp [RowKit.intOf]; omega
          case rel => exact ⟨k + 1, r, g2, rr.2, rs6, so6, bv6, rr.1, by simp, ⟨X6.out.1, FX.out, WAY.out, N6.out.1, OK6.out, N6.out.2, X6.out.2.1, X6.out.2.2⟩⟩
        · have b3 : (h.k == 3) = true := by rw [hk]; rfl
          have C : Hid (∀ W, Below w3.heap.size w3 W → Calls Tryz.prog 93 #[.pointer (some ⟨R, 0, Option.none⟩), sagg h v1 v2 v3 v4 (.slice ua (slen l) uc)] W fun e w' => e = .returned (.tuple #[]) ∧ SpR w0 R ts ns bs va vb nv sa sv W rr w') := fun W hb => by
            have := l7For_of (fun q hq => HI.out q (by have := HG.out.1; omega)) FB.out.1 HG.out.2 HVB.out h l HL.out.1 HL.out.2.1 HL.out.2.2 hk ht3 ht4 W v1 v2 v3 v4 (.slice ua (slen l) uc) (R3.out.later hb) (HU.out.later (R3.out.later hb).low) HUL.out
            rw [HRR.out] at this
            exact this
          clear hk ht3 ht4
          go_wp2_with (first | (refine wpList_load_mid rfl 119 _ rfl b (o + k * 19) rfl _ _ Hrg.out Tryz.underlying119 rfl sizeIS ?_) | (refine store_abs rfl 119 _ _ rfl _ _ _ rfl rfl ?ht4 sizeIS ?ho4 ?_; exact (newthere w3 _); exact (oneS h v1 v2 v3 v4 _ o1 o2 o3 o4 o5); intro W hW; have HW := hid (newblkS h v1 v2 v3 v4 _ hW); have c0 : W.cell? ⟨w3.heap.size, 0, Option.none⟩ = some (.int .i64 h.k) := HW.out.1 0 _ rfl; clear hW) | (refine wpList_load_mid rfl 119 _ rfl w3.heap.size 0 rfl _ _ HW.out.1 Tryz.underlying119 rfl sizeIS ?_))
          refine (C.out W HW.out.2).mono ?_
          rintro e w4 ⟨rfl, rs6, so6, bv6, hq6, hk6, hs6⟩
          have X6 := hid (And.intro hq6 (And.intro (K3.out.1.trans ((KQ.of HW.out.2).trans hk6)) (Nat.le_trans K3.out.2 (Nat.le_trans HW.out.2.size hs6))))
          clear hq6 hk6 hs6 HW c0
          go_wp2
          go_roundw
          case measure => simp [RowKit.intOf]; omega
          case rel => exact ⟨k + 1, r, g2, rr.2, rs6, so6, bv6, rr.1, by simp, ⟨X6.out.1, FX.out, WAY.out, N6.out.1, OK6.out, N6.out.2, X6.out.2.1, X6.out.2.2⟩⟩
        · have b1 : (h.k == 1) = false := by rw [hk]; rfl
          have b2 : (h.k == 2) = false := by rw [hk]; rfl
          have b3 : (h.k == 3) = false := by rw [hk]; rfl
          have HT := hid ht
          have E : Hid (rr = simple ts ns bs h (burnt st1)) := show _ = _ by rw [← HRR.out, stepS, if_neg (by omega)]
          have hsim : Hid ((evS ts ns bs (burnt st1) h.x2 = none → rr = (1, burnt st1)) ∧ ∀ n, evS ts ns bs (burnt st1) h.x2 = some n → rr = (0, { burnt st1 with O := (burnt st1).O ++ [n] })) :=
            ⟨fun e => by rw [E.out, simple, if_neg (by omega), if_neg (by omega), e], fun n e => by rw [E.out, simple, if_neg (by omega), if_neg (by omega), e]⟩
          obtain ⟨a5, b5, hso⟩ := iownShape (R3.out.own.own (so1, (burnt st1).O) (by simp))
          simp only at hso
          subst hso
          clear ht E HRR hk
          go_wp2_with (first | (refine wpList_load_mid rfl 119 _ rfl b (o + k * 19) rfl _ _ Hrg.out Tryz.underlying119 rfl sizeIS ?_) | (refine store_abs rfl 119 _ _ rfl _ _ _ rfl rfl ?ht2 sizeIS ?ho2 ?_; exact (newthere w3 _); exact (oneS h v1 v2 v3 v4 _ o1 o2 o3 o4 o5); intro W hW; have HW := hid (newblkS h v1 v2 v3 v4 _ hW); have c0 : W.cell? ⟨w3.heap.size, 0, Option.none⟩ = some (.int .i64 h.k) := HW.out.1 0 _ rfl; clear hW) | (refine wpList_load_mid rfl 43 _ rfl w3.heap.size 6 rfl _ _ (boxX2 HW.out.1) Tryz.underlying43 rfl sizeExp4 ?_))
          refine (value_s FB.out.1.rb HBL.out HVB.out h.x2 HT.out _ v2 (R3.out.later HW.out.2) (HU.out.e2.later (R3.out.later HW.out.2).low)).mono ?_
          rintro e w4 ⟨he, hb4⟩
          have B4 := hid (HW.out.2.trans (hb4.mono HW.out.2.size))
          have R4 := hid (R3.out.later B4.out)
          have c04 := keeps hb4 c0
          obtain ⟨r2, hr2⟩ : ∃ r, evS ts ns bs (burnt st1) h.x2 = r := ⟨_, rfl⟩
          rw [hr2] at he hsim
          clear hb4 hr2 c0 HW R3 Hrg
          cases r2 with
          | none =>
            obtain rfl : e = .returned (.tuple #[.int .i64 0, .bool false]) := he
            have hs1 := hid (hsim.out.1 rfl)
            have T := hid (R4.out.end_ 1)
            obtain ⟨_, _, _, _, c6, _, _, fz⟩ := R4.out.cells
            have f6 := fz 6
            clear fz
            go_wp2
            go_roundw
            case measure => simp [RowKit.intOf]; omega
            case rel => exact ⟨k + 1, r, g2, rr.2, rs1, _, bv1, rr.1, by simp, ⟨by rw [hs1.out]; exact T.out.1, FX.out, WAY.out, N6.out.1, OK6.out, N6.out.2, K3.out.1.trans ((KQ.of B4.out).trans T.out.2), by show w.heap.size ≤ (w4.setCell ⟨R, 6, Option.none⟩ (.int .i64 1)).heap.size; rw [World.size_setCell]; exact Nat.le_trans K3.out.2 B4.out.size⟩⟩
          | some n =>
            obtain rfl : e = .returned (.tuple #[.int .i64 n, .bool true]) := he
            have hs1 := hid (hsim.out.2 n rfl)
            obtain ⟨_, _, _, c5, _, _, _, f5⟩ := R4.out.cells
            replace f5 := f5 5
            have HO2 := hid (R4.out.own.own (.slice a5 (burnt st1).O.length b5, (burnt st1).O) (by simp))
            have hsz := R4.out.ge.2
            have hol : (burnt st1).O.length ≤ 4000 := by have := FB.out.2; omega
            obtain ⟨i0, hi, hz0, hz1, hz2⟩ := info_parts infoI8r
            have HI0 := hid (And.intro hi (And.intro hz0 (And.intro hz1 hz2)))
            clear hsim hi hz0 hz1 hz2
            go_wp2_with (refine wpList_append_lies _ rfl _ _ 31 rfl w0.heap.size 3 i0 _ 1 8 Tryz.underlying31 HI0.out.1 HI0.out.2.1 HI0.out.2.2.1 HI0.out.2.2.2 rfl (by decide) (.slice a5 (burnt st1).O.length b5) (burnt st1).O.length (ints (burnt st1).O) rfl (ownB HO2.out (alloc_below _ _)) ⟨w4.heap.size, 0, Option.none⟩ 1 1 [.int .i64 n] rfl rfl (new1 _ _ _) (by intro u hu; simp at hu; subst hu; rfl) (by decide) (by unfold maxLen; omega) (by omega) (by simp; omega) (w4.heap.size + 1) (by simp) ?_; intro g6 c6 w6 hown6 hgrow6 hat6 hlt6; have N7 := hid (R4.out.print (n := n) (alloc_below w4 (.cells #[.int .i64 n] 3)) hown6 hgrow6 (by simpa using hat6)); have c56 : w6.cell? ⟨R, 5, Option.none⟩ = some (.slice a5 (burnt st1).O.length b5) := (hgrow6.cell (keeps (alloc_below _ _) c5) (fun e => own_ne (ownB HO2.out (alloc_below _ _)) ((alloc_below w4 (.cells #[.int .i64 n] 3)).block _ (lt_heap R4.out.blk) |>.trans R4.out.blk) (by decide) e.symm)); have f56 : w6.frozen? ⟨R, 5, Option.none⟩ = false := (World.frozen?_of_block (hgrow6.block R (by have := lt_heap R4.out.blk; simp; omega) (fun e => own_ne (ownB HO2.out (alloc_below _ _)) ((alloc_below w4 (.cells #[.int .i64 n] 3)).block _ (lt_heap R4.out.blk) |>.trans R4.out.blk) (by decide) e.symm))).trans ((World.frozen?_of_block ((alloc_below w4 (.cells #[.int .i64 n] 3)).block R (lt_heap R4.out.blk))).trans f5); have S6 : Hid (w4.heap.size ≤ w6.heap.size) := (Nat.le_trans (by simp) hgrow6.size); clear hown6 hgrow6 hat6 hlt6)
            go_roundw
            case measure => simp [RowKit.intOf]; omega
            case rel => exact ⟨k + 1, r, g2, rr.2, rs1, _, bv1, rr.1, by simp, ⟨by rw [hs1.out]; exact N7.out.1, FX.out, WAY.out, N6.out.1, OK6.out, N6.out.2, K3.out.1.trans ((KQ.of B4.out).trans N7.out.2), by rw [World.size_setCell]; exact Nat.le_trans K3.out.2 (Nat.le_trans B4.out.size S6.out)⟩⟩
theorem l7Body_all {w0 : World} {R : Nat} {ts : List AR} {ns : List ByteArray} {vn : Nat} {va vb nv sa sv : Value} (hvb : vb.oneCell' = true) (g : Nat) : SBodyC w0 R ts ns vn va vb nv sa sv g := by
  induction g using Nat.strongRecOn with
  | _ g ih => exact l7Body_of hvb ih
end Go.Proofs.YtfoghiminlbdaaaGreat
