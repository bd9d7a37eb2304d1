/-
  The contract of the landed code's visitAll over expressions, where these lie anywhere but in what is written meanwhile.
-/
import Derived.Test.YthokildkedlkfaaAstVisE
namespace Go.Proofs.Ythokildkedlkfaa
open Go.RowKit Go.Lib
set_option linter.unusedSimpArgs false
set_option linter.unusedVariables false

/-- What is handed to visitAll to do at each. -/
def DoesEK (w0 w : World) (lo hi : Nat) (F : EF) (kf : Nat) (caps : Array Value) (J : List EN → World → Prop) : Prop :=
  ∀ (vs : List EN) (h : EH) (l : EF) (u : Value) (w1 : World), J vs w1 → (∀ (a : Addr) v, w0.cell? a = some v → w1.cell? a = some v) → w.heap.size ≤ w1.heap.size → Gap lo hi w w1 → EV w0 0 l u → (h, l) ∈ enall F → vs.length < enodes F →
    Calls Try.prog kf (#[.agg (xcells ⟨h, l⟩ u).toArray] ++ caps) w1 fun e w2 => e = .returned (.tuple #[]) ∧ J (vs ++ [(h, l)]) w2 ∧ Gap lo hi w1 w2
set_option maxHeartbeats 4000000 in
set_option maxRecDepth 100000 in
theorem visitAllEK_is (F : EF) (hF : enodes F ≤ 10000000) (w0 w : World) (lo hi : Nat) (hkp : ∀ w', Gap lo hi w w' → ∀ (a : Addr) v, w0.cell? a = some v → w'.cell? a = some v) (hhi : hi ≤ w.heap.size) (v : Value) (hv : EV w0 0 F v) (kf : Nat) (hent : ∀ (args : Array Value) (w : World), (callFunc kf args).run Try.prog w = .ok (.enter kf args) w) (caps : Array Value) (J : List EN → World → Prop) (hq : Quiet lo hi J) (hJ : J [] w) (hdo : DoesEK w0 w lo hi F kf caps J) :
    Calls Try.prog 39 #[v, .func (.func 41) #[] #[], .func (.func kf) #[] caps] w fun e w' => e = .returned (.tuple #[]) ∧ (∃ vs, J vs w' ∧ vs.Perm (enall F)) ∧ Gap lo hi w w' := by
  obtain ⟨i0, hi0, hz0, hz1, hz2⟩ := info_parts infoEE
  have C0 : Hid (VisE w0 F [(F, v)] [] (enodes F + 1)) := ⟨fun p hp => by simp only [List.mem_cons, List.not_mem_nil, or_false] at hp; subst hp; exact hv, by simp [ctall], by simp [ctall, enall_len]; omega, Nat.le_refl _⟩
  have Hdo := Lib.hid hdo
  have Hq := Lib.hid hq
  have HJ := Lib.hid hJ
  have HK := Lib.hid hkp
  obtain ⟨a0, c0, rfl⟩ := hv.shape
  clear hv hdo hq hJ hkp
  go_enter Try.func39, Try.ntmps39
  go_wp2
  go_loopg [6] (enodes F + 1) (fun m t wr => ∃ (td : TdC) (vs : List EN), Hid (VisE w0 F td vs m) ∧ wr.ownsRow w.heap.size 24 1 t td.length (td.map (·.2)) ∧ Hid (J vs wr) ∧ Gap lo hi w wr)
  case atStart => exact ⟨[(F, .slice a0 (elen F) c0)], [], C0.out, ⟨rfl, .inr ⟨w.heap.size, 1, #[.slice a0 (elen F) c0], rfl, Nat.le_refl _, (by show (w.heap.push _)[w.heap.size]? = _; simp), Nat.le_refl _, (by unfold maxLen; omega), rfl, rfl⟩⟩, Hq.out.below HJ.out hhi (alloc_below _ _), Gap.of _ _ (alloc_below _ _)⟩
  case round =>
    obtain ⟨td, vs, hC, hown, hJv, hbw⟩ := hrel
    clear C0
    rcases List.eq_nil_or_concat td with rfl | ⟨ti, p, htd⟩
    · obtain ⟨a, cap, rfl⟩ := own_none hown
      have hs := hC.out.perm
      simp only [ctall, List.append_nil] at hs
      have Hs := Lib.hid hs
      clear hs
      go_wp2
      go_end0
      exact ⟨rfl, ⟨vs, hJv.out, Hs.out⟩, hbw⟩
    · rw [List.concat_eq_append] at htd
      subst htd
      rw [List.length_append, List.map_append] at hown
      obtain ⟨g, cap, rfl, hc1, hc2, hBg, hg⟩ := own_some hown
      have hcell := own_cell hown (j := ti.length) (u := p.2) (by rw [List.getElem?_append_right (by simp)]; simp)
      have hpop := own_pop hown (by simp)
      obtain ⟨b, o, pa, pc, hpv, hpa, _, hpin⟩ := hC.out.all p (by simp)
      have hR := hC.out.pop hpin
      rw [hpv] at hcell
      have hnp : elen p.1 ≤ 10000000 := by have := hR.len; have := hR.big; have := elen_le p.1; rw [enall_len] at *; omega
      have hlen : ti.length ≤ 10000001 := by have := hR.len; have := hR.big; omega
      have HR := Lib.hid hR
      have hcapI : (ti.length : Int) + 1 ≤ (cap : Int) := by omega
      have hlenI : (ti.length : Int) ≤ 10000001 := by omega
      have hmx : (cap : Int) ≤ 9223372036854775807 := by unfold maxLen at hc2; omega
      clear hC hown hpin hR hc1 hlen hc2
      go_wp2
      go_loopw [6, 28] (fun t i wr2 => ∃ (td : TdC) (vs : List EN) (R : EF) (k : Nat), i = .int .i64 (k : Int) ∧ Hid (VisRE w0 F td vs gk R p.1 k b o) ∧ wr2.ownsRow w.heap.size 24 1 t td.length (td.map (·.2)) ∧ Hid (J vs wr2) ∧ Gap lo hi w wr2) (fun _ i _ => elen p.1 - (RowKit.intOf i).toNat)
      case atStart => exact ⟨ti, vs, p.1, 0, rfl, HR.out, hpop, hJv.out, hbw⟩
      case round =>
        obtain ⟨td, vs, R, k, rfl, hR, hown, hJv2, hbr⟩ := hrel
        clear hcell hpop HR hbw hJv
        cases R with
        | nil =>
          have hk : ¬ (k : Int) < (elen p.1 : Int) := by have := hR.out.num; simp only [elen] at this; omega
          go_wp2
          go_roundg (gk - 1)
          case measure => have := hR.out.len; omega
          case rel => exact ⟨td, vs, hR.out.done, hown, hJv2, hbr⟩
        | node p' q' h l r =>
          have hlt : (k : Int) < (elen p.1 : Int) := by have := hR.out.num; simp only [elen] at this; omega
          have hne : ¬ p.1 = .nil := by intro e; have := hR.out.num; rw [e] at this; simp only [elen] at this; omega
          obtain rfl : pa = some ⟨b, o, Option.none⟩ := hpa.resolve_right hne
          have hbz := HK.out wr hbr
          obtain ⟨⟨a0, a1, a2, u, a3, hul⟩, _⟩ := EIn_node.1 hR.out.at_
          have hrg := x_range (x := ⟨h, l⟩) a0 a1 a2 a3
          have Hrg := Lib.hid (show wr.rangeAt b (o + k * 4) (xcells ⟨h, l⟩ u) from fun j v hj => hbz _ _ (hrg j v hj))
          have Hbz := Lib.hid hbz
          have hR2 := Lib.hid (hR.out.push hul)
          have hM := Lib.hid hR.out.mem
          have HL := Lib.hid hul
          have o5 := hul.isOne
          obtain ⟨ua, uc, rfl⟩ := hul.shape
          have hn1 : td.length ≤ 10000001 := by have := hR.out.len; have := hR.out.big; omega
          have Hn1 := Lib.hid hn1
          have hsz := hbr.size
          clear hrg hul hR hne hn1 hpa hbz a0 a1 a2 a3
          go_wp2_with (first | (refine wpList_load_mid rfl 26 _ rfl b (o + k * 4) rfl _ _ Hrg.out Try.underlying26 rfl sizeIE2 ?_) | (refine store_abs rfl 26 _ _ rfl _ _ _ rfl rfl ?ht sizeIE2 ?ho ?_; exact (newthere4 wr _); exact (oneX ⟨h, l⟩ _ o5); intro W hW; have HW := Lib.hid (newblk4 ⟨h, l⟩ _ hW); clear hW) | (refine wpList_load_mid rfl 26 _ rfl wr.heap.size 0 rfl _ _ HW.out.1 Try.underlying26 rfl sizeIE2 ?_))
          refine (Hdo.out vs h l (.slice ua (elen l) uc) _ (Hq.out.below hJv2.out (Nat.le_trans hhi hsz) HW.out.2) (fun a v hc => keeps HW.out.2 (Hbz.out a v hc)) (Nat.le_trans hsz HW.out.2.size) (hbr.trans (Gap.of lo hi HW.out.2)) HL.out hM.out.1 hM.out.2).mono ?_
          rintro e w4 ⟨rfl, hJ4, hg4⟩
          have HJ4 := Lib.hid hJ4
          have hown4 := ownM (ownB hown HW.out.2) hg4 hhi
          have hbr4 := hbr.trans ((Gap.of lo hi HW.out.2).trans hg4)
          have hr4 : w4.rangeAt wr.heap.size 0 (xcells ⟨h, l⟩ (.slice ua (elen l) uc)) := fun j x hx => by
            have h1 := HW.out.1 j x hx
            have h2 := lt_of_cellA h1
            have h3 := hg4.block wr.heap.size h2 (.inr (Nat.le_trans hhi hsz))
            unfold World.cell? at h1 ⊢
            simp only [h3]
            exact h1
          have Hr4 := Lib.hid hr4
          have hs4 := hbr4.size
          have hs4' := HW.out.2.size
          have hs4'' := hg4.size
          clear hJ4 hg4 hr4 hown hbr HW Hrg hJv2 HL
          go_wp2_with (refine wpList_load_mid rfl 26 _ rfl wr.heap.size 0 rfl _ _ Hr4.out Try.underlying26 rfl sizeIE2 ?_)
          refine (partsOf_is ⟨h, l⟩ _ _).mono ?_
          rintro e w5 ⟨rfl, hb5⟩
          have hown5 := ownB hown4 hb5
          have hbr5 := hbr4.trans (Gap.of lo hi hb5)
          have HJ5 := Lib.hid (Hq.out.below HJ4.out (Nat.le_trans hhi hs4) hb5)
          have HO := Lib.hid hown5
          have hs5 := hbr5.size
          have hlt5 : td.length ≤ 10000001 := Hn1.out
          obtain ⟨ta, tc, rfl⟩ : ∃ ta tc, u6 = .slice ta td.length tc := by
            rcases hown5.2 with ⟨h1, h0⟩ | ⟨g, cap, cur, h1, _⟩
            · exact ⟨_, _, by rw [h0]; exact h1⟩
            · exact ⟨_, _, h1⟩
          clear hb5 hown4 hbr4 Hr4 o5
          go_wp2_with (at_builtin; refine wpList_append_own _ rfl _ _ 92 rfl w.heap.size 24 i0 _ 1 24 Try.underlying92 hi0 hz0 hz1 hz2 rfl (by decide) _ _ _ rfl (hown5.alloc _) ⟨w5.heap.size, 0, Option.none⟩ 1 1 [.slice ua (elen l) uc] rfl rfl ?c1 ?c2 ?c3 ?c4 ?c5 ?_)
          case c1 => exact new1 _ _ _
          case c2 => intro x hx; simp only [List.mem_cons, List.not_mem_nil, or_false] at hx; subst hx; rfl
          case c3 => unfold maxLen; omega
          case c4 => omega
          case c5 => simp; omega
          intro v' w6 hown' hgrow _
          obtain ⟨n1, n2, n3⟩ := snocH (l := l) hown5 hbr5 hgrow hown'
          have HJ6 := Lib.hid (Hq.out (vs ++ [(h, l)]) w5 w6 HJ5.out n3.1 (fun k _ hk => n3.2 k (by omega)))
          clear hown' hgrow hown5 hbr5 HO
          go_wp2
          go_roundw
          case rel => exact ⟨td ++ [(l, .slice ua (elen l) uc)], vs ++ [(h, l)], r, k + 1, by go_num, hR2, n1, HJ6, n2⟩
          case measure => simp [RowKit.intOf]; omega
end Go.Proofs.Ythokildkedlkfaa
