import Derived.Test.YtpinockfakndlaaGreatP03ofFnEvals
import Derived.Test.YtpinockfakndlaaGreatP01ofFnEvals
import Derived.Test.YtpinockfakndlaaGreatP18ofFnEvals
import Derived.BigQuiet
import Derived.Deep.QuietTactic
namespace Go.Proofs.YtpinockfakndlaaGreat
open Go.RowKit Go.Lib
set_option maxRecDepth 100000
set_option maxHeartbeats 4000000
set_option linter.unusedSimpArgs false
set_option linter.unusedVariables false
abbrev TdC := List (EF × Value)
theorem infoEE : (Tryz.prog.info? 41).map (fun i => (i.zero, i.size, i.bytes)) = some (some (.slice Option.none 0 0), 1, 24) := by kernel_rfl
abbrev EN := EH × EF
def enall : EF → List EN
  | .nil => []
  | .node _ _ h l r => (h, l) :: (enall l ++ enall r)
theorem enall_len : ∀ F : EF, (enall F).length = enodes F
  | .nil => rfl
  | .node _ _ h l r => by have := enall_len l; have := enall_len r; simp only [enall, enodes, List.length_cons, List.length_append]; omega
def ctall : TdC → List EN
  | [] => []
  | p :: r => enall p.1 ++ ctall r
theorem ctall_app (a b : TdC) : ctall (a ++ b) = ctall a ++ ctall b := by
  induction a with
  | nil => rfl
  | cons p a ih => simp only [List.cons_append, ctall, ih, List.append_assoc]
structure VisE (w : World) (F : EF) (td : TdC) (vs : List EN) (m : Nat) : Prop where
  all : ∀ p ∈ td, EV w 0 p.1 p.2
  perm : (vs ++ ctall td).Perm (enall F)
  len : td.length + (ctall td).length = m
  big : m ≤ enodes F + 1
structure VisRE (w : World) (F : EF) (td : TdC) (vs : List EN) (m : Nat) (R G : EF) (k b o : Nat) : Prop where
  all : ∀ p ∈ td, EV w 0 p.1 p.2
  perm : (vs ++ (ctall td ++ enall R)).Perm (enall F)
  len : td.length + (ctall td).length + (enall R).length + 1 = m
  big : m ≤ enodes F + 1
  at_ : EIn w 0 R b (o + k * 4)
  num : k + elen R = elen G
theorem VisE.pop {w : World} {F : EF} {td : TdC} {vs : List EN} {m : Nat} {p : EF × Value} {b o : Nat} (h : VisE w F (td ++ [p]) vs m) (hin : EIn w 0 p.1 b o) : VisRE w F td vs m p.1 p.1 0 b o := by
  have h1 := h.perm; have h2 := h.len; have h3 := h.big
  rw [ctall_app] at h1 h2
  simp only [ctall, List.length_append, List.length_cons, List.length_nil, List.append_nil] at h1 h2
  exact ⟨fun q hq => h.all q (List.mem_append_left _ hq), h1, by omega, h3, by simpa using hin, by omega⟩
theorem VisRE.push {w : World} {F : EF} {td : TdC} {vs : List EN} {m p q : Nat} {hd : EH} {l r G : EF} {k b o : Nat} {u : Value} (h : VisRE w F td vs m (.node p q hd l r) G k b o) (hu : EV w 0 l u) : VisRE w F (td ++ [(l, u)]) (vs ++ [(hd, l)]) m r G (k + 1) b o := by
  have h1 := h.perm; have h2 := h.len; have h4 := h.num
  simp only [enall, elen, List.length_cons, List.length_append] at h1 h2 h4
  refine ⟨fun q hq => ?_, ?_, ?_, h.big, ?_, by omega⟩
  · rcases List.mem_append.1 hq with hq | hq
    · exact h.all q hq
    · simp only [List.mem_cons, List.not_mem_nil, or_false] at hq; subst hq; exact hu
  · refine List.Perm.trans ?_ h1
    rw [ctall_app]
    simp only [ctall, List.append_nil, List.append_assoc, List.singleton_append, List.cons_append, List.nil_append]
    exact (List.perm_middle.symm).append_left vs
  · rw [ctall_app]; simp only [ctall, List.length_append, List.length_cons, List.length_nil]; omega
  · rw [show o + (k + 1) * 4 = o + k * 4 + 4 by omega]; exact (EIn_node.1 h.at_).2
theorem VisRE.done {w : World} {F : EF} {td : TdC} {vs : List EN} {m : Nat} {G : EF} {k b o : Nat} (h : VisRE w F td vs m .nil G k b o) : VisE w F td vs (m - 1) := by
  have h1 := h.perm; have h2 := h.len; have h3 := h.big
  simp only [enall, List.length_nil, List.append_nil] at h1 h2
  exact ⟨h.all, h1, by omega, by omega⟩
theorem VisRE.mem {w : World} {F : EF} {td : TdC} {vs : List EN} {m p q : Nat} {hd : EH} {l r G : EF} {k b o : Nat} (h : VisRE w F td vs m (.node p q hd l r) G k b o) : (hd, l) ∈ enall F ∧ vs.length < enodes F := by
  have h1 := h.perm
  refine ⟨h1.subset (by simp [enall]), ?_⟩
  have := h1.length_eq
  rw [enall_len] at this
  simp only [enall, List.length_append, List.length_cons] at this
  omega
theorem snocH {w w5 w6 : World} {lo hi : Nat} {td : TdC} {t v' u : Value} {l : EF} {o : Obj} (hown : w5.ownsRow w.heap.size 41 1 t td.length (td.map (·.2))) (hb : Gap lo hi w w5) (hg : (w5.alloc o).grownBy w6 t.ownBlock)
    (h : w6.ownsRow w.heap.size 41 1 v' (td.length + 1) (td.map (·.2) ++ [u])) : w6.ownsRow w.heap.size 41 1 v' (td ++ [(l, u)]).length ((td ++ [(l, u)]).map (·.2)) ∧ Gap lo hi w w6 ∧ w5.heap.size ≤ w6.heap.size ∧ ∀ k, k < w.heap.size → w6.heap[k]? = w5.heap[k]? := by
  have hbl : Below w.heap.size w5 w6 := ((Below.refl w.heap.size w5).alloc hb.size o).grown hg (by have := hb.size; simp; omega) (fun k hk => (hown.lt k hk).1)
  refine ⟨by rw [List.length_append, List.map_append]; exact h, ?_, hbl.size, hbl.block⟩
  exact ⟨hbl.os.trans hb.os, hbl.tape.trans hb.tape, hbl.output.trans hb.output, Nat.le_trans hb.size hbl.size, fun k hk hc => (hbl.block k hk).trans (hb.block k hk hc)⟩
def DoesE (w0 : World) (n lo hi : Nat) (F : EF) (kf : Nat) (caps : Array Value) (J : List EN → World → Prop) : Prop :=
  ∀ (vs : List EN) (h : EH) (l : EF) (u : Value) (w1 : World), J vs w1 → Below w0.heap.size w0 w1 → n ≤ w1.heap.size → EV w0 0 l u → (h, l) ∈ enall F → vs.length < enodes F →
    Calls Tryz.prog kf (#[.agg (xC ⟨h, l⟩ u).toArray] ++ caps) w1 fun e w2 => e = .returned (.tuple #[]) ∧ J (vs ++ [(h, l)]) w2 ∧ Gap lo hi w1 w2
theorem visitAllE_is (F : EF) (hF : enodes F ≤ 10000000) (w0 w : World) (hb0 : Below w0.heap.size w0 w) (lo hi : Nat) (hlo : w0.heap.size ≤ lo) (hhi : hi ≤ w.heap.size) (v : Value) (hv : EV w0 0 F v) (kf : Nat) (hent : ∀ (args : Array Value) (w : World), (callFunc kf args).run Tryz.prog w = .ok (.enter kf args) w) (caps : Array Value) (J : List EN → World → Prop) (hq : Quiet lo hi J) (hJ : J [] w) (hdo : DoesE w0 w.heap.size lo hi F kf caps J) :
    Calls Tryz.prog 121 #[v, .func (.func 79) #[] #[], .func (.func kf) #[] caps] w fun e w' => e = .returned (.tuple #[]) ∧ (∃ vs, J vs w' ∧ vs.Perm (enall F)) ∧ Gap lo hi w w' := by
  obtain ⟨i0, hi0, hz0, hz1, hz2⟩ := info_parts infoEE
  have C0 : Hid (VisE w0 F [(F, v)] [] (enodes F + 1)) := ⟨fun p hp => by simp only [List.mem_cons, List.not_mem_nil, or_false] at hp; subst hp; exact hv, by simp [ctall], by simp [ctall, enall_len]; omega, Nat.le_refl _⟩
  have Hdo := hid hdo
  have Hq := hid hq
  have HJ := hid hJ
  have Hb0 := hid hb0
  have hsz0 := hb0.size
  obtain ⟨a0, c0, rfl⟩ := hv.shape
  clear hv hdo hq hJ hb0
  go_enter Tryz.func121, Tryz.ntmps121
  go_wp2
  go_loopg [6] (enodes F + 1) (fun m t wr => ∃ (td : TdC) (vs : List EN), Hid (VisE w0 F td vs m) ∧ wr.ownsRow w.heap.size 41 1 t td.length (td.map (·.2)) ∧ Hid (J vs wr) ∧ Gap lo hi w wr)
  case atStart => exact ⟨[(F, .slice a0 (elen F) c0)], [], C0.out, ⟨rfl, .inr ⟨w.heap.size, 1, #[.slice a0 (elen F) c0], rfl, Nat.le_refl _, (by show (w.heap.push _)[w.heap.size]? = _; simp), Nat.le_refl _, (by unfold maxLen; omega), rfl, rfl⟩⟩, Hq.out.below HJ.out hhi (aB _ _), Gap.of _ _ (aB _ _)⟩
  case round =>
    obtain ⟨td, vs, hC, hown, hJv, hbw⟩ := hrel
    clear C0
    rcases List.eq_nil_or_concat td with rfl | ⟨ti, p, htd⟩
    · obtain ⟨a, cap, rfl⟩ := own_none hown
      have hs := hC.out.perm
      simp only [ctall, List.append_nil] at hs
      have Hs := hid hs
      clear hs
      go_wp2
      go_end0
      exact ⟨rfl, ⟨vs, hJv.out, Hs.out⟩, hbw⟩
    · rw [List.concat_eq_append] at htd
      subst htd
      rw [List.length_append, List.map_append] at hown
      obtain ⟨g, cap, rfl, hc1, hc2, hBg, hg⟩ := own_some hown
      have hcell := own_cell hown (j := ti.length) (u := p.2) (by rw [List.getElem?_append_right (by simp)]; simp)
      have hpop := own_pop hown (by simp)
      obtain ⟨b, o, pa, pc, hpv, hpa, _, hpin⟩ := hC.out.all p (by simp)
      have hR := hC.out.pop hpin
      rw [hpv] at hcell
      have hnp : elen p.1 ≤ 10000000 := by have := hR.len; have := hR.big; have := elen_le p.1; rw [enall_len] at *; omega
      have hlen : ti.length ≤ 10000001 := by have := hR.len; have := hR.big; omega
      have HR := hid hR
      have hcapI : (ti.length : Int) + 1 ≤ (cap : Int) := by omega
      have hlenI : (ti.length : Int) ≤ 10000001 := by omega
      have hmx : (cap : Int) ≤ 9223372036854775807 := by unfold maxLen at hc2; omega
      clear hC hown hpin hR hc1 hlen hc2
      go_wp2
      go_loopw [6, 28] (fun t i wr2 => ∃ (td : TdC) (vs : List EN) (R : EF) (k : Nat), i = .int .i64 (k : Int) ∧ Hid (VisRE w0 F td vs gk R p.1 k b o) ∧ wr2.ownsRow w.heap.size 41 1 t td.length (td.map (·.2)) ∧ Hid (J vs wr2) ∧ Gap lo hi w wr2) (fun _ i _ => elen p.1 - (RowKit.intOf i).toNat)
      case atStart => exact ⟨ti, vs, p.1, 0, rfl, HR.out, hpop, hJv.out, hbw⟩
      case round =>
        obtain ⟨td, vs, R, k, rfl, hR, hown, hJv2, hbr⟩ := hrel
        clear hcell hpop HR hbw hJv
        cases R with
        | nil =>
          have hk : ¬ (k : Int) < (elen p.1 : Int) := by have := hR.out.num; simp only [elen] at this; omega
          go_wp2
          go_roundg (gk - 1)
          case measure => have := hR.out.len; omega
          case rel => exact ⟨td, vs, hR.out.done, hown, hJv2, hbr⟩
        | node p' q' h l r =>
          have hlt : (k : Int) < (elen p.1 : Int) := by have := hR.out.num; simp only [elen] at this; omega
          have hne : ¬ p.1 = .nil := by intro e; have := hR.out.num; rw [e] at this; simp only [elen] at this; omega
          obtain rfl : pa = some ⟨b, o, Option.none⟩ := hpa.resolve_right hne
          have hbz : Below w0.heap.size w0 wr := Hb0.out.trans (hbr.below hlo hsz0)
          obtain ⟨⟨a0, a1, a2, u, a3, hul⟩, _⟩ := EIn_node.1 hR.out.at_
          have hrg := x_range (x := ⟨h, l⟩) a0 a1 a2 a3
          have Hrg := hid (rangeAt_later hrg hbz)
          have Hbz := hid hbz
          have hR2 := hid (hR.out.push hul)
          have hM := hid hR.out.mem
          have HL := hid hul
          have o5 := hul.isOne
          obtain ⟨ua, uc, rfl⟩ := hul.shape
          have hn1 : td.length ≤ 10000001 := by have := hR.out.len; have := hR.out.big; omega
          have Hn1 := hid hn1
          have hsz := hbr.size
          clear hrg hul hR hne hn1 hpa hbz a0 a1 a2 a3
          go_wp2_with (first | (refine wpList_load_mid rfl 43 _ rfl b (o + k * 4) rfl _ _ Hrg.out Tryz.underlying43 rfl sizeIE2 ?_) | (refine sA rfl 43 _ _ rfl _ _ _ rfl rfl ?ht sizeIE2 ?ho ?_; exact (newthere4 wr _); exact (oneX ⟨h, l⟩ _ o5); intro W hW; have HW := hid (newblk4 ⟨h, l⟩ _ hW); clear hW) | (refine wpList_load_mid rfl 43 _ rfl wr.heap.size 0 rfl _ _ HW.out.1 Tryz.underlying43 rfl sizeIE2 ?_))
          refine (Hdo.out vs h l (.slice ua (elen l) uc) _ (Hq.out.below hJv2.out (Nat.le_trans hhi hsz) HW.out.2) (Hbz.out.trans (HW.out.2.mono Hbz.out.size)) (Nat.le_trans hsz HW.out.2.size) HL.out hM.out.1 hM.out.2).mono ?_
          rintro e w4 ⟨rfl, hJ4, hg4⟩
          have HJ4 := hid hJ4
          have hown4 := ownM (ownB hown HW.out.2) hg4 hhi
          have hbr4 := hbr.trans ((Gap.of lo hi HW.out.2).trans hg4)
          have hr4 : w4.rangeAt wr.heap.size 0 (xC ⟨h, l⟩ (.slice ua (elen l) uc)) := fun j x hx => by
            have h1 := HW.out.1 j x hx
            have h2 := lt_of_cellA h1
            have h3 := hg4.block wr.heap.size h2 (.inr (Nat.le_trans hhi hsz))
            unfold World.cell? at h1 ⊢
            simp only [h3]
            exact h1
          have Hr4 := hid hr4
          have hs4 := hbr4.size
          have hs4' := HW.out.2.size
          have hs4'' := hg4.size
          clear hJ4 hg4 hr4 hown hbr HW Hrg hJv2 HL
          go_wp2_with (refine wpList_load_mid rfl 43 _ rfl wr.heap.size 0 rfl _ _ Hr4.out Tryz.underlying43 rfl sizeIE2 ?_)
          refine (partsOf_is ⟨h, l⟩ _ _).mono ?_
          rintro e w5 ⟨rfl, hb5⟩
          have hown5 := ownB hown4 hb5
          have hbr5 := hbr4.trans (Gap.of lo hi hb5)
          have HJ5 := hid (Hq.out.below HJ4.out (Nat.le_trans hhi hs4) hb5)
          have HO := hid hown5
          have hs5 := hbr5.size
          have hlt5 : td.length ≤ 10000001 := Hn1.out
          obtain ⟨ta, tc, rfl⟩ : ∃ ta tc, u6 = .slice ta td.length tc := by
            rcases hown5.2 with ⟨h1, h0⟩ | ⟨g, cap, cur, h1, _⟩
            · exact ⟨_, _, by rw [h0]; exact h1⟩
            · exact ⟨_, _, h1⟩
          clear hb5 hown4 hbr4 Hr4 o5
          go_wp2_with (at_builtin; refine wpList_append_own _ rfl _ _ 190 rfl w.heap.size 41 i0 _ 1 24 Tryz.underlying190 hi0 hz0 hz1 hz2 rfl (by decide) _ _ _ rfl (hown5.alloc _) ⟨w5.heap.size, 0, Option.none⟩ 1 1 [.slice ua (elen l) uc] rfl rfl ?c1 ?c2 ?c3 ?c4 ?c5 ?_)
          case c1 => exact new1 _ _ _
          case c2 => intro x hx; simp only [List.mem_cons, List.not_mem_nil, or_false] at hx; subst hx; rfl
          case c3 => unfold maxLen; omega
          case c4 => omega
          case c5 => simp; omega
          intro v' w6 hown' hgrow _
          obtain ⟨n1, n2, n3⟩ := snocH (l := l) hown5 hbr5 hgrow hown'
          have HJ6 := hid (Hq.out (vs ++ [(h, l)]) w5 w6 HJ5.out n3.1 (fun k _ hk => n3.2 k (by omega)))
          clear hown' hgrow hown5 hbr5 HO
          go_wp2
          go_roundw
          case rel => exact ⟨td ++ [(l, .slice ua (elen l) uc)], vs ++ [(h, l)], r, k + 1, by go_num, hR2, n1, HJ6, n2⟩
          case measure => simp [RowKit.intOf]; omega
theorem cntE_is (x : X) (v : Value) (w : World) (cb : Nat) (c : Nat) (hc : NumAt w cb (c : Int)) (hs : c < 10000000) :
    Calls Tryz.prog 122 #[.agg (xC x v).toArray, .pointer (some ⟨cb, 0, Option.none⟩)] w fun e w' => e = .returned (.tuple #[]) ∧ NumAt w' cb (c + 1 : Nat) ∧ Gap cb (cb + 1) w w' := by
  show Calls Tryz.prog 122 #[.agg #[.int .i64 x.h.k, .int .i64 x.h.n, .string x.h.s, v], .pointer (some ⟨cb, 0, Option.none⟩)] w _
  have H := hid (fun (o : Obj) (d : Int) => below_boxset (o := o) (d := d) hc)
  have hlt := lt_of_block hc
  have c1 : ∀ o, (w.alloc o).cell? ⟨cb, 0, Option.none⟩ = some (.int .i64 (c : Int)) := fun o => cell_of_one ((Below.heap_alloc _ _ cb hlt).trans hc)
  have c2 : ∀ o, (w.alloc o).frozen? ⟨cb, 0, Option.none⟩ = false := fun o => free_of_one ((Below.heap_alloc _ _ cb hlt).trans hc)
  have hsI : (c : Int) + 1 ≤ 10000000 := by omega
  clear hc
  go_enter Tryz.func122, Tryz.ntmps122
  go_wp2
  go_end0
  exact ⟨rfl, H.out _ _⟩
theorem countAllE_is (F : EF) (hF : enodes F ≤ 10000000) (w : World) (v : Value) (hv : EV w 0 F v) :
    Calls Tryz.prog 78 #[v, .func (.func 79) #[] #[]] w fun e w' => e = .returned (.int .i64 (enodes F : Int)) ∧ Below w.heap.size w w' := by
  have hmf : ∀ (fn : Fn) (first cap : Array Value) (w : World), (Instr.makeFunc fn first cap).run Tryz.prog w = .ok (.func fn first cap) w := fun _ _ _ _ => rfl
  have N := hid (new_num w 0)
  have Hv := hid (fun (W : World) (hN : NumAt W w.heap.size 0) (hb : Below w.heap.size w W) (hW : W.heap.size = w.heap.size + 1) =>
    visitAllE_is F hF w W hb w.heap.size (w.heap.size + 1) (Nat.le_refl _) (by omega) v hv 122 (fun _ _ => rfl) #[.pointer (some ⟨w.heap.size, 0, Option.none⟩)] (fun vs w' => NumAt w' w.heap.size (vs.length : Int))
      (fun vs w1 w2 hj _ hk => (hk _ (Nat.le_refl _) (Nat.lt_succ_self _)).trans hj) hN (fun vs h l u w1 hj _ _ _ _ hl => (cntE_is ⟨h, l⟩ u w1 _ vs.length hj (by omega)).mono (by
        rintro e w2 ⟨rfl, h1, h2⟩
        refine ⟨rfl, ?_, h2⟩
        show NumAt w2 w.heap.size ((vs ++ [(h, l)]).length : Int)
        rw [List.length_append]; exact h1)))
  go_enter Tryz.func78, Tryz.ntmps78
  go_wp2_with fail
  refine (Hv.out _ N.out.1 N.out.2 (by simp)).mono ?_
  rintro e w1 ⟨rfl, ⟨vs, hj, hp⟩, hg⟩
  have hl : (vs.length : Int) = (enodes F : Int) := by rw [hp.length_eq, enall_len]
  have hcell := cell_of_one hj
  have hB := hid (gap_own N.out.2 (hg.wider (Nat.le_refl _) (by simp)))
  clear hj hp hg N Hv
  rw [hl] at hcell
  go_wp2
  go_ret
  exact ⟨rfl, hB.out⟩
theorem new_range (w : World) (arr : Array Value) (t : TypeId) : (w.alloc (.cells arr t)).rangeAt w.heap.size 0 arr.toList := blk_range (t := t) (fr := (0, 0)) (by show (w.heap.push _)[w.heap.size]? = _; simp)
def expOk (x : X) : Bool := toldX 8 x && decide (enodes x.l + 1 ≤ 60)
theorem impl_ExpOk (x : X) (hx : enodes x.l ≤ 9000000) (w : World) (v : Value) (hv : EV w 0 x.l v) :
    Calls Tryz.prog 41 #[.agg (xC x v).toArray] w fun e w' => e = .returned (.bool (expOk x)) ∧ Below w.heap.size w w' := by
  show Calls Tryz.prog 41 #[.agg #[.int .i64 x.h.k, .int .i64 x.h.n, .string x.h.s, v]] w _
  have Hv := hid hv
  obtain ⟨va, vc, rfl⟩ := hv.shape
  obtain ⟨tv, htv⟩ : ∃ t, toldX 8 x = t := ⟨_, rfl⟩
  have Htv := hid htv
  have Hq : Hid (∀ w, EV w 0 x.l (.slice va (elen x.l) vc) → Calls Tryz.prog 77 #[.agg #[.int .i64 x.h.k, .int .i64 x.h.n, .string x.h.s, .slice va (elen x.l) vc], .int .i64 8] w fun e w' => e = .returned (.bool tv) ∧ Below w.heap.size w w') := fun w h => by rw [← htv]; exact expAsTold_all 8 (by omega) x w _ h
  have hb0 : Below w.heap.size w (w.alloc (.cells #[.int .i64 x.h.k, .int .i64 x.h.n, .string x.h.s, .slice va (elen x.l) vc] 43)) := aB _ _
  clear hv htv
  go_enter Tryz.func41, Tryz.ntmps41
  go_wp2_with fail
  refine (Hq.out _ (Hv.out.later hb0)).mono ?_
  rintro e w1 ⟨rfl, hb1⟩
  have B1 := hb0.trans (hb1.mono hb0.size)
  cases tv with
  | false =>
    clear hb0 hb1
    go_wp2
    go_ret
    exact retB (by rw [expOk, Htv.out]; rfl) B1
  | true =>
    have c0 := box_cell (i := 0) hb1 rfl
    have c1 := box_cell (i := 1) hb1 rfl
    have c2 := box_cell (i := 2) hb1 rfl
    have c3 := box_cell (i := 3) hb1 rfl
    have V1 := hid (Hv.out.later B1)
    clear hb0 hb1
    go_wp2_with fail
    have V2 : EV (w1.alloc (.cells (xC x (.slice va (elen x.l) vc)).toArray 43)) 0 (.node 0 0 x.h x.l .nil) (.slice (some ⟨w1.heap.size, 0, Option.none⟩) 1 1) :=
      EV.laid0 (F := .node 0 0 x.h x.l .nil) (ERow.one (V1.out.later (aB _ _))) (new_range w1 (xC x (.slice va (elen x.l) vc)).toArray 43) 1
    refine (countAllE_is (.node 0 0 x.h x.l .nil) (by simp only [enodes]; omega) _ _ V2).mono ?_
    rintro e w2 ⟨rfl, hb2⟩
    have B2 := B1.trans ((below_alloc hb2).mono B1.size)
    have hen : (enodes (.node 0 0 x.h x.l .nil : EF) : Int) = (enodes x.l : Int) + 1 := by simp only [enodes]; omega
    rw [hen]
    clear hb2 V2 c0 c1 c2 c3 hen
    by_cases h6 : (enodes x.l : Int) + 1 ≤ 60
    · go_wp2
      go_ret
      exact retB (by rw [expOk, Htv.out, decide_eq_true (by omega)]; rfl) B2
    · go_wp2
      go_ret
      exact retB (by rw [expOk, Htv.out]; simp; omega) B2
def parts (k : Int) : Int := if k = 1 ∨ k = 2 then 0 else if k = 3 then 1 else if 4 ≤ k ∧ k ≤ 8 then 2 else -1
theorem l3Parts_is (k r : Int) (hr : parts k = r) (w : World) : Calls Tryz.prog 153 #[.int .i64 k] w fun e w' => e = .returned (.int .i64 r) ∧ w = w' := by
  subst hr
  by_cases hk : 1 ≤ k ∧ k ≤ 8
  · obtain rfl | rfl | rfl | rfl | rfl | rfl | rfl | rfl : k = 1 ∨ k = 2 ∨ k = 3 ∨ k = 4 ∨ k = 5 ∨ k = 6 ∨ k = 7 ∨ k = 8 := by omega
    all_goals
      clear hk
      go_enter Tryz.func153, Tryz.ntmps153
      go_wp2
      go_ret
      exact ⟨rfl, rfl⟩
  · have hf : Hid (parts k = -1) := show parts k = -1 by
      unfold parts
      rw [if_neg (by omega), if_neg (by omega), if_neg (by omega)]
    have e1 : (k == 1) = false := int_ne (by omega)
    have e2 : (k == 2) = false := int_ne (by omega)
    have e3 : (k == 3) = false := int_ne (by omega)
    have e4 : (k == 4) = false := int_ne (by omega)
    have e5 : (k == 5) = false := int_ne (by omega)
    have e6 : (k == 6) = false := int_ne (by omega)
    have e7 : (k == 7) = false := int_ne (by omega)
    have e8 : (k == 8) = false := int_ne (by omega)
    clear hk
    go_enter Tryz.func153, Tryz.ntmps153
    go_wp2
    go_ret
    exact retI (by rw [hf.out]) rfl
theorem l1In_is (n a b : Int) (w : World) : Calls Tryz.prog 34 #[.int .i64 n, .int .i64 a, .int .i64 b] w fun e w' => e = .returned (.bool (decide (a ≤ n) && decide (n ≤ b))) ∧ w = w' := by
  by_cases h1 : a ≤ n
  · by_cases h2 : n ≤ b
    · go_enter Tryz.func34, Tryz.ntmps34
      go_wp2
      go_ret
      exact retB (by rw [decide_eq_true h1, decide_eq_true h2]; rfl) rfl
    · go_enter Tryz.func34, Tryz.ntmps34
      go_wp2
      go_ret
      exact retB (by first | (rw [decide_eq_false (by omega)]) | (simp; omega)) rfl
  · go_enter Tryz.func34, Tryz.ntmps34
    go_wp2
    go_ret
    exact retB (by rw [decide_eq_false (by omega)]; rfl) rfl
theorem belowN {B : Nat} {w w' : World} (h : Below B w w') (n : Nat) : Below B w (w'.drewN n) := by
  induction n with
  | zero => exact h
  | succ n ih => exact ih.drew
theorem below_calls {w w1 w2 : World} {n : Nat} (h : Below w.heap.size w w1) (hb : Below (w1.drewN n).heap.size (w1.drewN n) w2) : Below w.heap.size w w2 := (belowN h n).trans (hb.mono (belowN h n).size)
theorem l3Here_1 (n : Int) (s : ByteArray) (len : Nat) (hlim : s.size ≤ 281474976710656) (w : World) (a : Option Addr) (c : Nat) : Calls Tryz.prog 128 #[.agg #[.int .i64 1, .int .i64 n, .string s, .slice a len c]] w fun e w' => e = .returned (.bool (here ⟨1, n, s⟩ len)) ∧ Below w.heap.size w w' := by
  by_cases hl : len = 0
  case neg =>
    have hf : Hid (here ⟨1, n, s⟩ len = false) := show here _ _ = false by simp [here, fnum, hl]
    have h1 : ((0 : Int) == (len : Int)) = false := int_ne (by omega)
    have h1' : ((0 : Int) != (len : Int)) = true := by rw [bne, h1]; rfl
    clear hl
    go_enter Tryz.func128, Tryz.ntmps128
    go_wp2_with fail
    go_quiet (exact (l3Parts_is 1 0 rfl _).mono fun _ _ h => ⟨h.1, _, h.2.symm⟩)
    go_wp2
    go_ret
    exact retB hf.out (belowN (aB _ _) _)
  subst hl
  have hf : Hid (here ⟨1, n, s⟩ 0 = (decide (0 ≤ n) && decide (n ≤ 999999) && decide (s.size = 0))) := show here _ _ = _ by
    by_cases hs : s.size = 0
    · simp [here, fnum, hs]
    · simp [here, fnum, hs]
  go_enter Tryz.func128, Tryz.ntmps128
  go_wp2_with fail
  go_quiet (exact (l3Parts_is 1 0 rfl _).mono fun _ _ h => ⟨h.1, _, h.2.symm⟩)
  go_wp2_with fail
  refine (l1In_is n 0 999999 _).mono ?_
  rintro e w1 ⟨rfl, hb1⟩
  subst hb1
  obtain ⟨t, ht⟩ : ∃ t, (decide (0 ≤ n) && decide (n ≤ 999999)) = t := ⟨_, rfl⟩
  have Ht := hid ht
  rw [ht]
  clear ht
  cases t with
  | false =>
    go_wp2
    go_ret
    exact retB (by rw [hf.out, Ht.out]; rfl) (belowN (aB _ _) _)
  | true =>
    by_cases hs : s.size = 0
    · have he := str_empty hs
      have Hs := hid hs
      clear hs
      go_wp2
      go_ret
      exact retB (by rw [hf.out, Ht.out, Hs.out]; rfl) (belowN (aB _ _) _)
    · have he := str_full hs
      have Hs := hid hs
      clear hs
      go_wp2
      go_ret
      exact retB (by rw [hf.out, Ht.out, decide_eq_false Hs.out]; rfl) (belowN (aB _ _) _)
theorem l3Here_2 (n : Int) (s : ByteArray) (len : Nat) (hlim : s.size ≤ 281474976710656) (w : World) (a : Option Addr) (c : Nat) : Calls Tryz.prog 128 #[.agg #[.int .i64 2, .int .i64 n, .string s, .slice a len c]] w fun e w' => e = .returned (.bool (here ⟨2, n, s⟩ len)) ∧ Below w.heap.size w w' := by
  by_cases hl : len = 0
  case neg =>
    have hf : Hid (here ⟨2, n, s⟩ len = false) := show here _ _ = false by simp [here, fnum, hl]
    have h1 : ((0 : Int) == (len : Int)) = false := int_ne (by omega)
    have h1' : ((0 : Int) != (len : Int)) = true := by rw [bne, h1]; rfl
    clear hl
    go_enter Tryz.func128, Tryz.ntmps128
    go_wp2_with fail
    go_quiet (exact (l3Parts_is 2 0 rfl _).mono fun _ _ h => ⟨h.1, _, h.2.symm⟩)
    go_wp2
    go_ret
    exact retB hf.out (belowN (aB _ _) _)
  subst hl
  by_cases hn : n = 0
  case neg =>
    have hf : Hid (here ⟨2, n, s⟩ 0 = false) := show here _ _ = false by simp [here, fnum, hn]
    have h1 := int_ne hn
    have h1' : (n != 0) = true := by rw [bne, h1]; rfl
    clear hn
    go_enter Tryz.func128, Tryz.ntmps128
    go_wp2_with fail
    go_quiet (exact (l3Parts_is 2 0 rfl _).mono fun _ _ h => ⟨h.1, _, h.2.symm⟩)
    go_wp2
    go_ret
    exact retB hf.out (belowN (aB _ _) _)
  subst hn
  have hf : Hid (here ⟨2, 0, s⟩ 0 = nameOk s.data.toList) := show here _ _ = _ by simp [here, fnum]
  obtain ⟨nb, hnb⟩ : ∃ b, nameOk s.data.toList = b := ⟨_, rfl⟩
  have Hnb := hid hnb
  clear hnb
  go_enter Tryz.func128, Tryz.ntmps128
  go_wp2_with fail
  go_quiet (exact (l3Parts_is 2 0 rfl _).mono fun _ _ h => ⟨h.1, _, h.2.symm⟩)
  go_wp2_with fail
  refine (spec_NameOk s nb Hnb.out hlim _).mono ?_
  rintro e w1 ⟨rfl, hb1⟩
  have B1 := below_calls (aB _ _) hb1
  clear hb1
  go_wp2
  go_ret
  exact retB (by rw [hf.out, Hnb.out]) B1
theorem l3Here_3 (n : Int) (s : ByteArray) (len : Nat) (hlim : s.size ≤ 281474976710656) (w : World) (a : Option Addr) (c : Nat) : Calls Tryz.prog 128 #[.agg #[.int .i64 3, .int .i64 n, .string s, .slice a len c]] w fun e w' => e = .returned (.bool (here ⟨3, n, s⟩ len)) ∧ Below w.heap.size w w' := by
  by_cases hl : len = 1
  case neg =>
    have hf : Hid (here ⟨3, n, s⟩ len = false) := show here _ _ = false by simp [here, fnum, hl]
    have h1 : ((1 : Int) == (len : Int)) = false := int_ne (by omega)
    have h1' : ((1 : Int) != (len : Int)) = true := by rw [bne, h1]; rfl
    clear hl
    go_enter Tryz.func128, Tryz.ntmps128
    go_wp2_with fail
    go_quiet (exact (l3Parts_is 3 1 rfl _).mono fun _ _ h => ⟨h.1, _, h.2.symm⟩)
    go_wp2
    go_ret
    exact retB hf.out (belowN (aB _ _) _)
  subst hl
  by_cases hn : n = 0
  case neg =>
    have hf : Hid (here ⟨3, n, s⟩ 1 = false) := show here _ _ = false by simp [here, fnum, hn]
    have h1 := int_ne hn
    have h1' : (n != 0) = true := by rw [bne, h1]; rfl
    clear hn
    go_enter Tryz.func128, Tryz.ntmps128
    go_wp2_with fail
    go_quiet (exact (l3Parts_is 3 1 rfl _).mono fun _ _ h => ⟨h.1, _, h.2.symm⟩)
    go_wp2
    go_ret
    exact retB hf.out (belowN (aB _ _) _)
  subst hn
  have hf : Hid (here ⟨3, 0, s⟩ 1 = nameOk s.data.toList) := show here _ _ = _ by simp [here, fnum]
  obtain ⟨nb, hnb⟩ : ∃ b, nameOk s.data.toList = b := ⟨_, rfl⟩
  have Hnb := hid hnb
  clear hnb
  go_enter Tryz.func128, Tryz.ntmps128
  go_wp2_with fail
  go_quiet (exact (l3Parts_is 3 1 rfl _).mono fun _ _ h => ⟨h.1, _, h.2.symm⟩)
  go_wp2_with fail
  refine (spec_NameOk s nb Hnb.out hlim _).mono ?_
  rintro e w1 ⟨rfl, hb1⟩
  have B1 := below_calls (aB _ _) hb1
  clear hb1
  go_wp2
  go_ret
  exact retB (by rw [hf.out, Hnb.out]) B1
theorem l3Here_4 (n : Int) (s : ByteArray) (len : Nat) (hlim : s.size ≤ 281474976710656) (w : World) (a : Option Addr) (c : Nat) : Calls Tryz.prog 128 #[.agg #[.int .i64 4, .int .i64 n, .string s, .slice a len c]] w fun e w' => e = .returned (.bool (here ⟨4, n, s⟩ len)) ∧ Below w.heap.size w w' := by
  by_cases hl : len = 2
  case neg =>
    have hf : Hid (here ⟨4, n, s⟩ len = false) := show here _ _ = false by simp [here, fnum, hl]
    have h1 : ((2 : Int) == (len : Int)) = false := int_ne (by omega)
    have h1' : ((2 : Int) != (len : Int)) = true := by rw [bne, h1]; rfl
    clear hl
    go_enter Tryz.func128, Tryz.ntmps128
    go_wp2_with fail
    go_quiet (exact (l3Parts_is 4 2 rfl _).mono fun _ _ h => ⟨h.1, _, h.2.symm⟩)
    go_wp2
    go_ret
    exact retB hf.out (belowN (aB _ _) _)
  subst hl
  by_cases hn : n = 0
  case neg =>
    have hf : Hid (here ⟨4, n, s⟩ 2 = false) := show here _ _ = false by simp [here, fnum, hn]
    have h1 := int_ne hn
    have h1' : (n != 0) = true := by rw [bne, h1]; rfl
    clear hn
    go_enter Tryz.func128, Tryz.ntmps128
    go_wp2_with fail
    go_quiet (exact (l3Parts_is 4 2 rfl _).mono fun _ _ h => ⟨h.1, _, h.2.symm⟩)
    go_wp2
    go_ret
    exact retB hf.out (belowN (aB _ _) _)
  subst hn
  by_cases hs : s.size = 0
  · have hf : Hid (here ⟨4, 0, s⟩ 2 = true) := show here _ _ = _ by simp [here, fnum, hs]
    have he := str_empty hs
    clear hs
    go_enter Tryz.func128, Tryz.ntmps128
    go_wp2_with fail
    go_quiet (exact (l3Parts_is 4 2 rfl _).mono fun _ _ h => ⟨h.1, _, h.2.symm⟩)
    go_wp2
    go_ret
    exact retB hf.out (belowN (aB _ _) _)
  · have hf : Hid (here ⟨4, 0, s⟩ 2 = false) := show here _ _ = _ by simp [here, fnum, hs]
    have he := str_full hs
    clear hs
    go_enter Tryz.func128, Tryz.ntmps128
    go_wp2_with fail
    go_quiet (exact (l3Parts_is 4 2 rfl _).mono fun _ _ h => ⟨h.1, _, h.2.symm⟩)
    go_wp2
    go_ret
    exact retB hf.out (belowN (aB _ _) _)
theorem l3Here_5 (n : Int) (s : ByteArray) (len : Nat) (hlim : s.size ≤ 281474976710656) (w : World) (a : Option Addr) (c : Nat) : Calls Tryz.prog 128 #[.agg #[.int .i64 5, .int .i64 n, .string s, .slice a len c]] w fun e w' => e = .returned (.bool (here ⟨5, n, s⟩ len)) ∧ Below w.heap.size w w' := by
  by_cases hl : len = 2
  case neg =>
    have hf : Hid (here ⟨5, n, s⟩ len = false) := show here _ _ = false by simp [here, fnum, hl]
    have h1 : ((2 : Int) == (len : Int)) = false := int_ne (by omega)
    have h1' : ((2 : Int) != (len : Int)) = true := by rw [bne, h1]; rfl
    clear hl
    go_enter Tryz.func128, Tryz.ntmps128
    go_wp2_with fail
    go_quiet (exact (l3Parts_is 5 2 rfl _).mono fun _ _ h => ⟨h.1, _, h.2.symm⟩)
    go_wp2
    go_ret
    exact retB hf.out (belowN (aB _ _) _)
  subst hl
  by_cases hn : n = 0
  case neg =>
    have hf : Hid (here ⟨5, n, s⟩ 2 = false) := show here _ _ = false by simp [here, fnum, hn]
    have h1 := int_ne hn
    have h1' : (n != 0) = true := by rw [bne, h1]; rfl
    clear hn
    go_enter Tryz.func128, Tryz.ntmps128
    go_wp2_with fail
    go_quiet (exact (l3Parts_is 5 2 rfl _).mono fun _ _ h => ⟨h.1, _, h.2.symm⟩)
    go_wp2
    go_ret
    exact retB hf.out (belowN (aB _ _) _)
  subst hn
  by_cases hs : s.size = 0
  · have hf : Hid (here ⟨5, 0, s⟩ 2 = true) := show here _ _ = _ by simp [here, fnum, hs]
    have he := str_empty hs
    clear hs
    go_enter Tryz.func128, Tryz.ntmps128
    go_wp2_with fail
    go_quiet (exact (l3Parts_is 5 2 rfl _).mono fun _ _ h => ⟨h.1, _, h.2.symm⟩)
    go_wp2
    go_ret
    exact retB hf.out (belowN (aB _ _) _)
  · have hf : Hid (here ⟨5, 0, s⟩ 2 = false) := show here _ _ = _ by simp [here, fnum, hs]
    have he := str_full hs
    clear hs
    go_enter Tryz.func128, Tryz.ntmps128
    go_wp2_with fail
    go_quiet (exact (l3Parts_is 5 2 rfl _).mono fun _ _ h => ⟨h.1, _, h.2.symm⟩)
    go_wp2
    go_ret
    exact retB hf.out (belowN (aB _ _) _)
theorem l3Here_6 (n : Int) (s : ByteArray) (len : Nat) (hlim : s.size ≤ 281474976710656) (w : World) (a : Option Addr) (c : Nat) : Calls Tryz.prog 128 #[.agg #[.int .i64 6, .int .i64 n, .string s, .slice a len c]] w fun e w' => e = .returned (.bool (here ⟨6, n, s⟩ len)) ∧ Below w.heap.size w w' := by
  by_cases hl : len = 2
  case neg =>
    have hf : Hid (here ⟨6, n, s⟩ len = false) := show here _ _ = false by simp [here, fnum, hl]
    have h1 : ((2 : Int) == (len : Int)) = false := int_ne (by omega)
    have h1' : ((2 : Int) != (len : Int)) = true := by rw [bne, h1]; rfl
    clear hl
    go_enter Tryz.func128, Tryz.ntmps128
    go_wp2_with fail
    go_quiet (exact (l3Parts_is 6 2 rfl _).mono fun _ _ h => ⟨h.1, _, h.2.symm⟩)
    go_wp2
    go_ret
    exact retB hf.out (belowN (aB _ _) _)
  subst hl
  by_cases hn : n = 0
  case neg =>
    have hf : Hid (here ⟨6, n, s⟩ 2 = false) := show here _ _ = false by simp [here, fnum, hn]
    have h1 := int_ne hn
    have h1' : (n != 0) = true := by rw [bne, h1]; rfl
    clear hn
    go_enter Tryz.func128, Tryz.ntmps128
    go_wp2_with fail
    go_quiet (exact (l3Parts_is 6 2 rfl _).mono fun _ _ h => ⟨h.1, _, h.2.symm⟩)
    go_wp2
    go_ret
    exact retB hf.out (belowN (aB _ _) _)
  subst hn
  by_cases hs : s.size = 0
  · have hf : Hid (here ⟨6, 0, s⟩ 2 = true) := show here _ _ = _ by simp [here, fnum, hs]
    have he := str_empty hs
    clear hs
    go_enter Tryz.func128, Tryz.ntmps128
    go_wp2_with fail
    go_quiet (exact (l3Parts_is 6 2 rfl _).mono fun _ _ h => ⟨h.1, _, h.2.symm⟩)
    go_wp2
    go_ret
    exact retB hf.out (belowN (aB _ _) _)
  · have hf : Hid (here ⟨6, 0, s⟩ 2 = false) := show here _ _ = _ by simp [here, fnum, hs]
    have he := str_full hs
    clear hs
    go_enter Tryz.func128, Tryz.ntmps128
    go_wp2_with fail
    go_quiet (exact (l3Parts_is 6 2 rfl _).mono fun _ _ h => ⟨h.1, _, h.2.symm⟩)
    go_wp2
    go_ret
    exact retB hf.out (belowN (aB _ _) _)
theorem l3Here_7 (n : Int) (s : ByteArray) (len : Nat) (hlim : s.size ≤ 281474976710656) (w : World) (a : Option Addr) (c : Nat) : Calls Tryz.prog 128 #[.agg #[.int .i64 7, .int .i64 n, .string s, .slice a len c]] w fun e w' => e = .returned (.bool (here ⟨7, n, s⟩ len)) ∧ Below w.heap.size w w' := by
  by_cases hl : len = 2
  case neg =>
    have hf : Hid (here ⟨7, n, s⟩ len = false) := show here _ _ = false by simp [here, fnum, hl]
    have h1 : ((2 : Int) == (len : Int)) = false := int_ne (by omega)
    have h1' : ((2 : Int) != (len : Int)) = true := by rw [bne, h1]; rfl
    clear hl
    go_enter Tryz.func128, Tryz.ntmps128
    go_wp2_with fail
    go_quiet (exact (l3Parts_is 7 2 rfl _).mono fun _ _ h => ⟨h.1, _, h.2.symm⟩)
    go_wp2
    go_ret
    exact retB hf.out (belowN (aB _ _) _)
  subst hl
  by_cases hn : n = 0
  case neg =>
    have hf : Hid (here ⟨7, n, s⟩ 2 = false) := show here _ _ = false by simp [here, fnum, hn]
    have h1 := int_ne hn
    have h1' : (n != 0) = true := by rw [bne, h1]; rfl
    clear hn
    go_enter Tryz.func128, Tryz.ntmps128
    go_wp2_with fail
    go_quiet (exact (l3Parts_is 7 2 rfl _).mono fun _ _ h => ⟨h.1, _, h.2.symm⟩)
    go_wp2
    go_ret
    exact retB hf.out (belowN (aB _ _) _)
  subst hn
  by_cases hs : s.size = 0
  · have hf : Hid (here ⟨7, 0, s⟩ 2 = true) := show here _ _ = _ by simp [here, fnum, hs]
    have he := str_empty hs
    clear hs
    go_enter Tryz.func128, Tryz.ntmps128
    go_wp2_with fail
    go_quiet (exact (l3Parts_is 7 2 rfl _).mono fun _ _ h => ⟨h.1, _, h.2.symm⟩)
    go_wp2
    go_ret
    exact retB hf.out (belowN (aB _ _) _)
  · have hf : Hid (here ⟨7, 0, s⟩ 2 = false) := show here _ _ = _ by simp [here, fnum, hs]
    have he := str_full hs
    clear hs
    go_enter Tryz.func128, Tryz.ntmps128
    go_wp2_with fail
    go_quiet (exact (l3Parts_is 7 2 rfl _).mono fun _ _ h => ⟨h.1, _, h.2.symm⟩)
    go_wp2
    go_ret
    exact retB hf.out (belowN (aB _ _) _)
theorem l3Here_8 (n : Int) (s : ByteArray) (len : Nat) (hlim : s.size ≤ 281474976710656) (w : World) (a : Option Addr) (c : Nat) : Calls Tryz.prog 128 #[.agg #[.int .i64 8, .int .i64 n, .string s, .slice a len c]] w fun e w' => e = .returned (.bool (here ⟨8, n, s⟩ len)) ∧ Below w.heap.size w w' := by
  by_cases hl : len = 2
  case neg =>
    have hf : Hid (here ⟨8, n, s⟩ len = false) := show here _ _ = false by simp [here, fnum, hl]
    have h1 : ((2 : Int) == (len : Int)) = false := int_ne (by omega)
    have h1' : ((2 : Int) != (len : Int)) = true := by rw [bne, h1]; rfl
    clear hl
    go_enter Tryz.func128, Tryz.ntmps128
    go_wp2_with fail
    go_quiet (exact (l3Parts_is 8 2 rfl _).mono fun _ _ h => ⟨h.1, _, h.2.symm⟩)
    go_wp2
    go_ret
    exact retB hf.out (belowN (aB _ _) _)
  subst hl
  by_cases hn : n = 0
  case neg =>
    have hf : Hid (here ⟨8, n, s⟩ 2 = false) := show here _ _ = false by simp [here, fnum, hn]
    have h1 := int_ne hn
    have h1' : (n != 0) = true := by rw [bne, h1]; rfl
    clear hn
    go_enter Tryz.func128, Tryz.ntmps128
    go_wp2_with fail
    go_quiet (exact (l3Parts_is 8 2 rfl _).mono fun _ _ h => ⟨h.1, _, h.2.symm⟩)
    go_wp2
    go_ret
    exact retB hf.out (belowN (aB _ _) _)
  subst hn
  by_cases hs : s.size = 0
  · have hf : Hid (here ⟨8, 0, s⟩ 2 = true) := show here _ _ = _ by simp [here, fnum, hs]
    have he := str_empty hs
    clear hs
    go_enter Tryz.func128, Tryz.ntmps128
    go_wp2_with fail
    go_quiet (exact (l3Parts_is 8 2 rfl _).mono fun _ _ h => ⟨h.1, _, h.2.symm⟩)
    go_wp2
    go_ret
    exact retB hf.out (belowN (aB _ _) _)
  · have hf : Hid (here ⟨8, 0, s⟩ 2 = false) := show here _ _ = _ by simp [here, fnum, hs]
    have he := str_full hs
    clear hs
    go_enter Tryz.func128, Tryz.ntmps128
    go_wp2_with fail
    go_quiet (exact (l3Parts_is 8 2 rfl _).mono fun _ _ h => ⟨h.1, _, h.2.symm⟩)
    go_wp2
    go_ret
    exact retB hf.out (belowN (aB _ _) _)
theorem l3Here_0 (k : Int) (hk : ¬ (1 ≤ k ∧ k ≤ 8)) (n : Int) (s : ByteArray) (len : Nat) (hlim : s.size ≤ 281474976710656) (w : World) (a : Option Addr) (c : Nat) : Calls Tryz.prog 128 #[.agg #[.int .i64 k, .int .i64 n, .string s, .slice a len c]] w fun e w' => e = .returned (.bool (here ⟨k, n, s⟩ len)) ∧ Below w.heap.size w w' := by
  have hf : Hid (here ⟨k, n, s⟩ len = false) := show here _ _ = false by
    have : fnum ⟨k, n, s⟩ len = 0 := by
      simp only [fnum]
      rw [if_neg (by omega), if_neg (by omega), if_neg (by omega), if_neg (by omega)]
    simp [here, this]
  have hp : Hid (parts k = -1) := show parts k = -1 by
    unfold parts
    rw [if_neg (by omega), if_neg (by omega), if_neg (by omega)]
  have h1 : ((-1 : Int) == (len : Int)) = false := int_ne (by omega)
  have h1' : ((-1 : Int) != (len : Int)) = true := by rw [bne, h1]; rfl
  clear hk
  go_enter Tryz.func128, Tryz.ntmps128
  go_wp2_with fail
  go_quiet (exact (l3Parts_is k (-1) hp.out _).mono fun _ _ h => ⟨h.1, _, h.2.symm⟩)
  go_wp2
  go_ret
  exact retB hf.out (belowN (aB _ _) _)
theorem l3Here_is (x : X) (hlim : x.h.s.size ≤ 281474976710656) (w : World) (v : Value) (hv : EV w 0 x.l v) : Calls Tryz.prog 128 #[.agg #[.int .i64 x.h.k, .int .i64 x.h.n, .string x.h.s, v]] w fun e w' => e = .returned (.bool (here x.h (elen x.l))) ∧ Below w.heap.size w w' := by
  obtain ⟨a, c, rfl⟩ := hv.shape
  obtain ⟨⟨k, n, s⟩, l⟩ := x
  by_cases hk : 1 ≤ k ∧ k ≤ 8
  · obtain h | h | h | h | h | h | h | h : k = 1 ∨ k = 2 ∨ k = 3 ∨ k = 4 ∨ k = 5 ∨ k = 6 ∨ k = 7 ∨ k = 8 := by omega
    · subst h; exact l3Here_1 n s (elen l) hlim w a c
    · subst h; exact l3Here_2 n s (elen l) hlim w a c
    · subst h; exact l3Here_3 n s (elen l) hlim w a c
    · subst h; exact l3Here_4 n s (elen l) hlim w a c
    · subst h; exact l3Here_5 n s (elen l) hlim w a c
    · subst h; exact l3Here_6 n s (elen l) hlim w a c
    · subst h; exact l3Here_7 n s (elen l) hlim w a c
    · subst h; exact l3Here_8 n s (elen l) hlim w a c
  · exact l3Here_0 k hk n s (elen l) hlim w a c
end Go.Proofs.YtpinockfakndlaaGreat
