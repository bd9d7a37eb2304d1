/-
  The contract of the landed code's countAll over expressions.
-/
import Derived.Test.YtnomibchmmgagaaAstTold
namespace Go.Proofs.Ytnomibchmmgagaa
open Go.RowKit Go.Lib
set_option linter.unusedSimpArgs false
set_option linter.unusedVariables false

/-- What is left to do: rows of expressions, each in its slice. -/
abbrev TdC := List (EF × Value)
/-- One more to do. -/
theorem snocC {w w5 w6 : World} {td : TdC} {t v' u : Value} {l : EF} {o : Obj} (hown : w5.ownsRow w.heap.size 24 1 t td.length (td.map (·.2))) (hb : Below w.heap.size w w5) (hg : (w5.alloc o).grownBy w6 t.ownBlock)
    (h : w6.ownsRow w.heap.size 24 1 v' (td.length + 1) (td.map (·.2) ++ [u])) : w6.ownsRow w.heap.size 24 1 v' (td ++ [(l, u)]).length ((td ++ [(l, u)]).map (·.2)) ∧ Below w.heap.size w w6 :=
  ⟨by rw [List.length_append, List.map_append]; exact h, (hb.alloc hb.size o).grown hg (by have := hb.size; simp; omega) (fun k hk => (hown.lt k hk).1)⟩
theorem infoEE : (Try.prog.info? 24).map (fun i => (i.zero, i.size, i.bytes)) = some (some (.slice Option.none 0 0), 1, 24) := by kernel_rfl

def csum : TdC → Nat
  | [] => 0
  | p :: r => enodes p.1 + csum r
theorem csum_app (a b : TdC) : csum (a ++ b) = csum a + csum b := by
  induction a with
  | nil => simp [csum]
  | cons p a ih => simp only [List.cons_append, csum, ih]; omega
/-- The state of the count between two rounds. -/
structure CneS (w : World) (F : EF) (td : TdC) (c m : Nat) : Prop where
  all : ∀ p ∈ td, EV w 0 p.1 p.2
  sum : c + csum td = enodes F
  len : td.length + csum td = m
  big : m ≤ enodes F + 1
/-- Within a round: R is what of the row is still to be looked at. -/
structure CneR (w : World) (F : EF) (td : TdC) (c m : Nat) (R G : EF) (k b o : Nat) : Prop where
  all : ∀ p ∈ td, EV w 0 p.1 p.2
  sum : c + csum td + enodes R = enodes F + elen R
  len : td.length + csum td + enodes R + 1 = m
  big : m ≤ enodes F + 1
  at_ : EIn w 0 R b (o + k * 4)
  num : k + elen R = elen G
theorem CneS.pop {w : World} {F : EF} {td : TdC} {c m : Nat} {p : EF × Value} {b o : Nat} (h : CneS w F (td ++ [p]) c m) (hin : EIn w 0 p.1 b o) : CneR w F td (c + elen p.1) m p.1 p.1 0 b o := by
  have h1 := h.sum; have h2 := h.len; have h3 := h.big
  rw [csum_app] at h1 h2
  simp only [csum, List.length_append, List.length_cons, List.length_nil] at h1 h2
  exact ⟨fun q hq => h.all q (List.mem_append_left _ hq), by omega, by omega, h3, by simpa using hin, by omega⟩
theorem CneR.push {w : World} {F : EF} {td : TdC} {c m p q : Nat} {hd : EH} {l r G : EF} {k b o : Nat} {u : Value} (h : CneR w F td c m (.node p q hd l r) G k b o) (hu : EV w 0 l u) : CneR w F (td ++ [(l, u)]) c m r G (k + 1) b o := by
  have h1 := h.sum; have h2 := h.len; have h4 := h.num
  simp only [enodes, elen] at h1 h2 h4
  refine ⟨fun q hq => ?_, ?_, ?_, h.big, ?_, by omega⟩
  · rcases List.mem_append.1 hq with hq | hq
    · exact h.all q hq
    · simp only [List.mem_cons, List.not_mem_nil, or_false] at hq; subst hq; exact hu
  · rw [csum_app]; simp only [csum]; omega
  · rw [csum_app]; simp only [csum, List.length_append, List.length_cons, List.length_nil]; omega
  · rw [show o + (k + 1) * 4 = o + k * 4 + 4 by omega]; exact (EIn_node.1 h.at_).2
theorem CneR.done {w : World} {F : EF} {td : TdC} {c m : Nat} {G : EF} {k b o : Nat} (h : CneR w F td c m .nil G k b o) : CneS w F td c (m - 1) := by
  have h1 := h.sum; have h2 := h.len; have h3 := h.big
  simp only [enodes, elen] at h1 h2
  exact ⟨h.all, by omega, by omega, by omega⟩
set_option maxHeartbeats 4000000 in
set_option maxRecDepth 100000 in
theorem countAllE_is (F : EF) (hF : enodes F ≤ 10000000) (w : World) (v : Value) (hv : EV w 0 F v) :
    Calls Try.prog 42 #[v, .func (.func 43) #[] #[]] w fun e w' => e = .returned (.int .i64 (enodes F : Int)) ∧ Below w.heap.size w w' := by
  obtain ⟨i0, hi, hz0, hz1, hz2⟩ := info_parts infoEE
  have C0 : Hid (CneS w F [(F, v)] 0 (enodes F + 1)) := ⟨fun p hp => by simp only [List.mem_cons, List.not_mem_nil, or_false] at hp; subst hp; exact hv, by simp [csum], by simp [csum]; omega, Nat.le_refl _⟩
  obtain ⟨a0, c0, rfl⟩ := hv.shape
  clear hv
  go_enter Try.func42, Try.ntmps42
  go_wp2
  go_loopg [5, 6] (enodes F + 1) (fun m x t wr => ∃ (td : TdC) (c : Nat), x = .int .i64 (c : Int) ∧ Hid (CneS w F td c m) ∧ wr.ownsRow w.heap.size 24 1 t td.length (td.map (·.2)) ∧ Below w.heap.size w wr)
  case atStart => exact ⟨[(F, .slice a0 (elen F) c0)], 0, rfl, C0.out, ⟨rfl, .inr ⟨w.heap.size, 1, #[.slice a0 (elen F) c0], rfl, Nat.le_refl _, (by show (w.heap.push _)[w.heap.size]? = _; simp), Nat.le_refl _, (by unfold maxLen; omega), rfl, rfl⟩⟩, alloc_below _ _⟩
  case round =>
    obtain ⟨td, c, rfl, hC, hown, hbw⟩ := hrel
    clear C0
    rcases List.eq_nil_or_concat td with rfl | ⟨ti, p, htd⟩
    · obtain ⟨a, cap, rfl⟩ := own_none hown
      have hs := hC.out.sum
      simp only [csum] at hs
      go_wp2
      go_ret
      exact retI (by omega) hbw
    · rw [List.concat_eq_append] at htd
      subst htd
      rw [List.length_append, List.map_append] at hown
      obtain ⟨g, cap, rfl, hc1, hc2, hBg, hg⟩ := own_some hown
      have hcell := own_cell hown (j := ti.length) (u := p.2) (by rw [List.getElem?_append_right (by simp)]; simp)
      have hpop := own_pop hown (by simp)
      obtain ⟨b, o, pa, pc, hpv, hpa, _, hpin⟩ := hC.out.all p (by simp)
      have hR := hC.out.pop hpin
      rw [hpv] at hcell
      have hnp : c + elen p.1 ≤ 10000000 := by have := hR.sum; have := elen_le p.1; omega
      have hlen : ti.length ≤ 10000001 := by have := hR.len; have := hR.big; omega
      have HR := Lib.hid hR
      have hcapI : (ti.length : Int) + 1 ≤ (cap : Int) := by omega
      have hlenI : (ti.length : Int) ≤ 10000001 := by omega
      have hmx : (cap : Int) ≤ 9223372036854775807 := by unfold maxLen at hc2; omega
      clear hC hown hpin hR hc1 hlen hc2
      go_wp2
      go_loopw [6, 32] (fun t i wr2 => ∃ (td : TdC) (R : EF) (k : Nat), i = .int .i64 (k : Int) ∧ Hid (CneR w F td (c + elen p.1) gk R p.1 k b o) ∧ wr2.ownsRow w.heap.size 24 1 t td.length (td.map (·.2)) ∧ Below w.heap.size w wr2) (fun _ i _ => elen p.1 - (RowKit.intOf i).toNat)
      case atStart => exact ⟨ti, p.1, 0, rfl, HR.out, hpop, hbw⟩
      case round =>
        obtain ⟨td, R, k, rfl, hR, hown, hbr⟩ := hrel
        clear hcell hpop HR hbw
        cases R with
        | nil =>
          have hk : ¬ (k : Int) < (elen p.1 : Int) := by have := hR.out.num; simp only [elen] at this; omega
          go_wp2
          go_roundg (gk - 1)
          case measure => have := hR.out.len; omega
          case rel => exact ⟨td, c + elen p.1, by go_num, hR.out.done, hown, hbr⟩
        | node p' q' h l r =>
          have hlt : (k : Int) < (elen p.1 : Int) := by have := hR.out.num; simp only [elen] at this; omega
          have hne : ¬ p.1 = .nil := by intro e; have := hR.out.num; rw [e] at this; simp only [elen] at this; omega
          obtain rfl : pa = some ⟨b, o, Option.none⟩ := hpa.resolve_right hne
          obtain ⟨⟨a0, a1, a2, u, a3, hul⟩, _⟩ := EIn_node.1 hR.out.at_
          have hrg := x_range (x := ⟨h, l⟩) a0 a1 a2 a3
          have Hrg := Lib.hid (rangeAt_later hrg hbr)
          have hR2 := Lib.hid (hR.out.push hul)
          have o5 := hul.isOne
          obtain ⟨ua, uc, rfl⟩ := hul.shape
          have hn1 : td.length ≤ 10000001 := by have := hR.out.len; have := hR.out.big; omega
          have Hn1 := Lib.hid hn1
          have hsz := hbr.size
          clear hrg hul hR hne hn1 hpa a0 a1 a2 a3
          go_wp2_with (first | (refine wpList_load_mid rfl 26 _ rfl b (o + k * 4) rfl _ _ Hrg.out Try.underlying26 rfl sizeIE2 ?_) | (refine store_abs rfl 26 _ _ rfl _ _ _ rfl rfl ?ht sizeIE2 ?ho ?_; exact (newthere4 wr _); exact (oneX ⟨h, l⟩ _ o5); intro W hW; have HW := Lib.hid (newblk4 ⟨h, l⟩ _ hW); clear hW) | (refine wpList_load_mid rfl 26 _ rfl wr.heap.size 0 rfl _ _ HW.out.1 Try.underlying26 rfl sizeIE2 ?_))
          refine (partsOf_is ⟨h, l⟩ _ _).mono ?_
          rintro e w5 ⟨rfl, hb5⟩
          have hB5 := HW.out.2.trans (hb5.mono HW.out.2.size)
          have hown5 := ownB hown hB5
          have hbr5 := hbr.trans (hB5.mono hbr.size)
          have HO := Lib.hid hown5
          have hs5 := hbr5.size
          have hlt5 : td.length ≤ 10000001 := Hn1.out
          obtain ⟨ta, tc, rfl⟩ : ∃ ta tc, u6 = .slice ta td.length tc := by
            rcases hown5.2 with ⟨h1, h0⟩ | ⟨g, cap, cur, h1, _⟩
            · exact ⟨_, _, by rw [h0]; exact h1⟩
            · exact ⟨_, _, h1⟩
          clear hb5 hown hbr HW Hrg o5 hB5
          go_wp2_with (at_builtin; refine wpList_append_own _ rfl _ _ 104 rfl w.heap.size 24 i0 _ 1 24 Try.underlying104 hi hz0 hz1 hz2 rfl (by decide) _ _ _ rfl (hown5.alloc _) ⟨w5.heap.size, 0, Option.none⟩ 1 1 [.slice ua (elen l) uc] rfl rfl ?c1 ?c2 ?c3 ?c4 ?c5 ?_)
          case c1 => exact new1 _ _ _
          case c2 => intro x hx; simp only [List.mem_cons, List.not_mem_nil, or_false] at hx; subst hx; rfl
          case c3 => unfold maxLen; omega
          case c4 => omega
          case c5 => simp; omega
          intro v' w6 hown' hgrow _
          obtain ⟨n1, n2⟩ := snocC (l := l) hown5 hbr5 hgrow hown'
          clear hown' hgrow hown5 hbr5 HO
          go_wp2
          go_roundw
          case rel => exact ⟨td ++ [(l, .slice ua (elen l) uc)], r, k + 1, by go_num, hR2, n1, n2⟩
          case measure => simp [RowKit.intOf]; omega
end Go.Proofs.Ytnomibchmmgagaa
