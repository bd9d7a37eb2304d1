/-
  Texts in one: ProgPlain, AstVisK, NameFour, ProgMap, ProgFit.
-/
import Derived.Test.YtfoghiminlbdaaaGreatP18ofRun
import Derived.Test.YtfoghiminlbdaaaGreatP10ofRun
import Derived.Maps.OwnOps
import Derived.Maps.OwnSet
import Derived.Test.YtfoghiminlbdaaaGreatP03ofRun
namespace Go.Proofs.YtfoghiminlbdaaaGreat
open Go.RowKit Go.Lib
set_option linter.unusedSimpArgs false
set_option linter.unusedVariables false
def expFits (arrs : List ByteArray) (h : SH) : Prop := ∀ a ∈ hall h, (a.1.k = 3 → a.1.s ∈ arrs) ∧ (a.1.k = 2 → a.1.s ∉ arrs)
def oneFits (arrs : List ByteArray) (ps : List SN) (n : SN) : Prop :=
  expFits arrs n.1 ∧ (n.1.k = 2 → n.1.s ∈ arrs) ∧ (n.1.k = 1 → n.1.s ∉ arrs ∧ ∀ m ∈ ps, m.1.k = 3 → m.1.s ≠ n.1.s) ∧ (n.1.k = 3 → n.1.s ∉ arrs)
def AllFit (arrs : List ByteArray) (ps : List SN) : Prop := ∀ n ∈ ps, oneFits arrs ps n
structure TT (arrs : List ByteArray) (ps : List SN) (T : ByteArray → Int) : Prop where
  arr : ∀ s, T s = 1 ↔ s ∈ arrs
  var : ∀ s, T s = 2 ↔ (s ∉ arrs ∧ ∃ n ∈ ps, n.1.k = 1 ∧ n.1.s = s)
  loop : ∀ s, T s = 3 ↔ (s ∉ arrs ∧ ∃ n ∈ ps, n.1.k = 3 ∧ n.1.s = s)
  all : ∀ s, T s = 0 ∨ T s = 1 ∨ T s = 2 ∨ T s = 3
def nestP : SF → (ByteArray → Bool) → Prop
  | .nil, _ => True
  | .node _ _ h l r, R => (h.k = 3 → R h.s = false ∧ nestP l (fun s => R s || decide (s = h.s))) ∧ nestP r R
def bodies : SF → Prop
  | .nil => True
  | .node _ _ h l r => (h.k ≠ 3 → l = .nil) ∧ bodies l ∧ bodies r
theorem AllFit.left {arrs : List ByteArray} {ps qs : List SN} (h : AllFit arrs (ps ++ qs)) : AllFit arrs ps := fun n hn => by
  obtain ⟨h1, h2, h3, h4⟩ := h n (List.mem_append_left _ hn)
  exact ⟨h1, h2, fun hk => ⟨(h3 hk).1, fun m hm => (h3 hk).2 m (List.mem_append_left _ hm)⟩, h4⟩
def stepFits (arrs : List ByteArray) (T : ByteArray → Int) (h : SH) : Prop :=
  expFits arrs h ∧ (h.k = 1 → T h.s = 0 ∨ T h.s = 2) ∧ (h.k = 2 → T h.s = 1) ∧ (h.k = 3 → T h.s = 0 ∨ T h.s = 3)
theorem step_iff {arrs : List ByteArray} {ps : List SN} {T : ByteArray → Int} (hT : TT arrs ps T) (hA : AllFit arrs ps) (h : SH) (l : SF) : stepFits arrs T h ↔ AllFit arrs (ps ++ [(h, l)]) := by
  constructor
  · rintro ⟨a1, a2, a3, a4⟩ n hn
    rcases List.mem_append.1 hn with hn | hn
    · obtain ⟨h1, h2, h3, h4⟩ := hA n hn
      refine ⟨h1, h2, fun hk => ⟨(h3 hk).1, fun m hm hm3 => ?_⟩, h4⟩
      rcases List.mem_append.1 hm with hm | hm
      · exact (h3 hk).2 m hm hm3
      · simp only [List.mem_cons, List.not_mem_nil, or_false] at hm
        subst hm
        intro e
        have t2 : T n.1.s = 2 := (hT.var _).2 ⟨(h3 hk).1, n, hn, hk, rfl⟩
        have e' : h.s = n.1.s := e
        have t3 : T h.s = 0 ∨ T h.s = 3 := a4 hm3
        rw [e'] at t3; omega
    · simp only [List.mem_cons, List.not_mem_nil, or_false] at hn
      subst hn
      refine ⟨a1, fun hk => (hT.arr _).1 (a3 hk), fun hk => ⟨fun hm => ?_, fun m hm hm3 e => ?_⟩, fun hk hm => ?_⟩
      · have t1 : T h.s = 1 := (hT.arr _).2 hm
        have := a2 hk; omega
      · rcases List.mem_append.1 hm with hm | hm
        · have hna : h.s ∉ arrs := fun hm => by have := (hT.arr _).2 hm; have := a2 hk; omega
          have t3 : T h.s = 3 := (hT.loop _).2 ⟨hna, m, hm, hm3, e⟩
          have := a2 hk; omega
        · simp only [List.mem_cons, List.not_mem_nil, or_false] at hm
          subst hm
          simp only [] at hm3 hk
          omega
      · have t1 : T h.s = 1 := (hT.arr _).2 hm
        have := a4 hk; omega
  · intro hall
    obtain ⟨h1, h2, h3, h4⟩ := hall (h, l) (by simp)
    refine ⟨h1, fun hk => ?_, fun hk => (hT.arr _).2 (h2 hk), fun hk => ?_⟩
    · obtain ⟨n1, n2⟩ := h3 hk
      rcases hT.all h.s with e | e | e | e
      · exact .inl e
      · exact absurd ((hT.arr _).1 e) n1
      · exact .inr e
      · obtain ⟨_, m, hm, hm3, he⟩ := (hT.loop _).1 e
        exact absurd he (n2 m (List.mem_append_left _ hm) hm3)
    · rcases hT.all h.s with e | e | e | e
      · exact .inl e
      · exact absurd ((hT.arr _).1 e) (h4 hk)
      · obtain ⟨hna, m, hm, hm1, he⟩ := (hT.var _).1 e
        obtain ⟨_, _, g3, _⟩ := hall m (List.mem_append_left _ hm)
        exact absurd he.symm ((g3 hm1).2 (h, l) (by simp) hk)
      · exact .inr e
def setT (T : ByteArray → Int) (s : ByteArray) (k : Int) : ByteArray → Int := fun t => if t = s ∧ T s = 0 then k else T t
def nextT (T : ByteArray → Int) (h : SH) : ByteArray → Int := if h.k = 1 then setT T h.s 2 else if h.k = 3 then setT T h.s 3 else T
theorem TT.next {arrs : List ByteArray} {ps : List SN} {T : ByteArray → Int} (hT : TT arrs ps T) (h : SH) (l : SF) (hf : stepFits arrs T h) : TT arrs (ps ++ [(h, l)]) (nextT T h) := by
  obtain ⟨_, f1, f2, f3⟩ := hf
  by_cases h1 : h.k = 1
  · have e : nextT T h = setT T h.s 2 := by unfold nextT; rw [if_pos h1]
    rw [e]
    have hna : h.s ∉ arrs := fun hm => by have := (hT.arr _).2 hm; have := f1 h1; omega
    have hv : ∀ s, setT T h.s 2 s = if s = h.s then 2 else T s := fun s => by
      unfold setT
      by_cases hs : s = h.s
      · rcases f1 h1 with e | e
        · rw [if_pos ⟨hs, e⟩, if_pos hs]
        · rw [if_neg (fun c => by omega), if_pos hs, hs, e]
      · rw [if_neg (fun c => hs c.1), if_neg hs]
    refine ⟨fun s => ?_, fun s => ?_, fun s => ?_, fun s => ?_⟩
    · rw [hv s]
      by_cases hs : s = h.s
      · rw [if_pos hs, hs]; constructor
        · intro c; omega
        · intro c; exact absurd c hna
      · rw [if_neg hs]; exact hT.arr s
    · rw [hv s]
      by_cases hs : s = h.s
      · rw [if_pos hs, hs]; simp only [true_iff]
        exact ⟨hna, (h, l), by simp, h1, rfl⟩
      · rw [if_neg hs, hT.var s]
        constructor
        · rintro ⟨a, n, hn, b, c⟩; exact ⟨a, n, List.mem_append_left _ hn, b, c⟩
        · rintro ⟨a, n, hn, b, c⟩
          rcases List.mem_append.1 hn with hn | hn
          · exact ⟨a, n, hn, b, c⟩
          · simp only [List.mem_cons, List.not_mem_nil, or_false] at hn; subst hn; exact absurd c.symm hs
    · rw [hv s]
      by_cases hs : s = h.s
      · rw [if_pos hs, hs]; constructor
        · intro c; omega
        · rintro ⟨a, n, hn, b, c⟩
          rcases List.mem_append.1 hn with hn | hn
          · have := (hT.loop h.s).2 ⟨a, n, hn, b, c⟩; have := f1 h1; omega
          · simp only [List.mem_cons, List.not_mem_nil, or_false] at hn; subst hn; simp only [] at b; omega
      · rw [if_neg hs, hT.loop s]
        constructor
        · rintro ⟨a, n, hn, b, c⟩; exact ⟨a, n, List.mem_append_left _ hn, b, c⟩
        · rintro ⟨a, n, hn, b, c⟩
          rcases List.mem_append.1 hn with hn | hn
          · exact ⟨a, n, hn, b, c⟩
          · simp only [List.mem_cons, List.not_mem_nil, or_false] at hn; subst hn; exact absurd c.symm hs
    · rw [hv s]; split
      · omega
      · exact hT.all s
  · by_cases h3 : h.k = 3
    · have e : nextT T h = setT T h.s 3 := by unfold nextT; rw [if_neg h1, if_pos h3]
      rw [e]
      have hna : h.s ∉ arrs := fun hm => by have := (hT.arr _).2 hm; have := f3 h3; omega
      have hv : ∀ s, setT T h.s 3 s = if s = h.s then 3 else T s := fun s => by
        unfold setT
        by_cases hs : s = h.s
        · rcases f3 h3 with e | e
          · rw [if_pos ⟨hs, e⟩, if_pos hs]
          · rw [if_neg (fun c => by omega), if_pos hs, hs, e]
        · rw [if_neg (fun c => hs c.1), if_neg hs]
      refine ⟨fun s => ?_, fun s => ?_, fun s => ?_, fun s => ?_⟩
      · rw [hv s]
        by_cases hs : s = h.s
        · rw [if_pos hs, hs]; constructor
          · intro c; omega
          · intro c; exact absurd c hna
        · rw [if_neg hs]; exact hT.arr s
      · rw [hv s]
        by_cases hs : s = h.s
        · rw [if_pos hs, hs]; constructor
          · intro c; omega
          · rintro ⟨a, n, hn, b, c⟩
            rcases List.mem_append.1 hn with hn | hn
            · have := (hT.var h.s).2 ⟨a, n, hn, b, c⟩; have := f3 h3; omega
            · simp only [List.mem_cons, List.not_mem_nil, or_false] at hn; subst hn; simp only [] at b; omega
        · rw [if_neg hs, hT.var s]
          constructor
          · rintro ⟨a, n, hn, b, c⟩; exact ⟨a, n, List.mem_append_left _ hn, b, c⟩
          · rintro ⟨a, n, hn, b, c⟩
            rcases List.mem_append.1 hn with hn | hn
            · exact ⟨a, n, hn, b, c⟩
            · simp only [List.mem_cons, List.not_mem_nil, or_false] at hn; subst hn; exact absurd c.symm hs
      · rw [hv s]
        by_cases hs : s = h.s
        · rw [if_pos hs, hs]; simp only [true_iff]
          exact ⟨hna, (h, l), by simp, h3, rfl⟩
        · rw [if_neg hs, hT.loop s]
          constructor
          · rintro ⟨a, n, hn, b, c⟩; exact ⟨a, n, List.mem_append_left _ hn, b, c⟩
          · rintro ⟨a, n, hn, b, c⟩
            rcases List.mem_append.1 hn with hn | hn
            · exact ⟨a, n, hn, b, c⟩
            · simp only [List.mem_cons, List.not_mem_nil, or_false] at hn; subst hn; exact absurd c.symm hs
      · rw [hv s]; split
        · omega
        · exact hT.all s
    · have e : nextT T h = T := by unfold nextT; rw [if_neg h1, if_neg h3]
      rw [e]
      have key : ∀ s (k : Int), (k = 1 ∨ k = 3) → ((∃ n ∈ ps ++ [(h, l)], n.1.k = k ∧ n.1.s = s) ↔ ∃ n ∈ ps, n.1.k = k ∧ n.1.s = s) := fun s k hk => by
        constructor
        · rintro ⟨n, hn, b, c⟩
          rcases List.mem_append.1 hn with hn | hn
          · exact ⟨n, hn, b, c⟩
          · simp only [List.mem_cons, List.not_mem_nil, or_false] at hn; subst hn; simp only [] at b; omega
        · rintro ⟨n, hn, b, c⟩; exact ⟨n, List.mem_append_left _ hn, b, c⟩
      exact ⟨hT.arr, fun s => by rw [hT.var s, key s 1 (.inl rfl)], fun s => by rw [hT.loop s, key s 3 (.inr rfl)], hT.all⟩
def DoesEK (w0 w : World) (lo hi : Nat) (F : EF) (kf : Nat) (caps : Array Value) (J : List EN → World → Prop) : Prop :=
  ∀ (vs : List EN) (h : EH) (l : EF) (u : Value) (w1 : World), J vs w1 → (∀ (a : Addr) v, w0.cell? a = some v → w1.cell? a = some v) → w.heap.size ≤ w1.heap.size → Gap lo hi w w1 → EV w0 0 l u → (h, l) ∈ enall F → vs.length < enodes F →
    Calls Tryz.prog kf (#[.agg (xcells ⟨h, l⟩ u).toArray] ++ caps) w1 fun e w2 => e = .returned (.tuple #[]) ∧ J (vs ++ [(h, l)]) w2 ∧ Gap lo hi w1 w2
set_option maxHeartbeats 4000000 in
set_option maxRecDepth 100000 in
theorem visitAllEK_is (F : EF) (hF : enodes F ≤ 10000000) (w0 w : World) (lo hi : Nat) (hkp : ∀ w', Gap lo hi w w' → ∀ (a : Addr) v, w0.cell? a = some v → w'.cell? a = some v) (hhi : hi ≤ w.heap.size) (v : Value) (hv : EV w0 0 F v) (kf : Nat) (hent : ∀ (args : Array Value) (w : World), (callFunc kf args).run Tryz.prog w = .ok (.enter kf args) w) (caps : Array Value) (J : List EN → World → Prop) (hq : Quiet lo hi J) (hJ : J [] w) (hdo : DoesEK w0 w lo hi F kf caps J) :
    Calls Tryz.prog 151 #[v, .func (.func 101) #[] #[], .func (.func kf) #[] caps] w fun e w' => e = .returned (.tuple #[]) ∧ (∃ vs, J vs w' ∧ vs.Perm (enall F)) ∧ Gap lo hi w w' := by
  obtain ⟨i0, hi0, hz0, hz1, hz2⟩ := info_parts infoEE
  have C0 : Hid (VisE w0 F [(F, v)] [] (enodes F + 1)) := ⟨fun p hp => by simp only [List.mem_cons, List.not_mem_nil, or_false] at hp; subst hp; exact hv, by simp [ctall], by simp [ctall, enall_len]; omega, Nat.le_refl _⟩
  have Hdo := hid hdo
  have Hq := hid hq
  have HJ := hid hJ
  have HK := hid hkp
  obtain ⟨a0, c0, rfl⟩ := hv.shape
  clear hv hdo hq hJ hkp
  go_enter Tryz.func151, Tryz.ntmps151
  go_wp2
  go_loopg [6] (enodes F + 1) (fun m t wr => ∃ (td : TdC) (vs : List EN), Hid (VisE w0 F td vs m) ∧ wr.ownsRow w.heap.size 41 1 t td.length (td.map (·.2)) ∧ Hid (J vs wr) ∧ Gap lo hi w wr)
  case atStart => exact ⟨[(F, .slice a0 (elen F) c0)], [], C0.out, ⟨rfl, .inr ⟨w.heap.size, 1, #[.slice a0 (elen F) c0], rfl, Nat.le_refl _, (by show (w.heap.push _)[w.heap.size]? = _; simp), Nat.le_refl _, (by unfold maxLen; omega), rfl, rfl⟩⟩, Hq.out.below HJ.out hhi (alloc_below _ _), Gap.of _ _ (alloc_below _ _)⟩
  case round =>
    obtain ⟨td, vs, hC, hown, hJv, hbw⟩ := hrel
    clear C0
    rcases List.eq_nil_or_concat td with rfl | ⟨ti, p, htd⟩
    · obtain ⟨a, cap, rfl⟩ := own_none hown
      have hs := hC.out.perm
      simp only [ctall, List.append_nil] at hs
      have Hs := hid hs
      clear hs
      go_wp2
      go_end0
      exact ⟨rfl, ⟨vs, hJv.out, Hs.out⟩, hbw⟩
    · rw [List.concat_eq_append] at htd
      subst htd
      rw [List.length_append, List.map_append] at hown
      obtain ⟨g, cap, rfl, hc1, hc2, hBg, hg⟩ := own_some hown
      have hcell := own_cell hown (j := ti.length) (u := p.2) (by rw [List.getElem?_append_right (by simp)]; simp)
      have hpop := own_pop hown (by simp)
      obtain ⟨b, o, pa, pc, hpv, hpa, _, hpin⟩ := hC.out.all p (by simp)
      have hR := hC.out.pop hpin
      rw [hpv] at hcell
      have hnp : elen p.1 ≤ 10000000 := by have := hR.len; have := hR.big; have := elen_le p.1; rw [enall_len] at *; omega
      have hlen : ti.length ≤ 10000001 := by have := hR.len; have := hR.big; omega
      have HR := hid hR
      have hcapI : (ti.length : Int) + 1 ≤ (cap : Int) := by omega
      have hlenI : (ti.length : Int) ≤ 10000001 := by omega
      have hmx : (cap : Int) ≤ 9223372036854775807 := by unfold maxLen at hc2; omega
      clear hC hown hpin hR hc1 hlen hc2
      go_wp2
      go_loopw [6, 28] (fun t i wr2 => ∃ (td : TdC) (vs : List EN) (R : EF) (k : Nat), i = .int .i64 (k : Int) ∧ Hid (VisRE w0 F td vs gk R p.1 k b o) ∧ wr2.ownsRow w.heap.size 41 1 t td.length (td.map (·.2)) ∧ Hid (J vs wr2) ∧ Gap lo hi w wr2) (fun _ i _ => elen p.1 - (RowKit.intOf i).toNat)
      case atStart => exact ⟨ti, vs, p.1, 0, rfl, HR.out, hpop, hJv.out, hbw⟩
      case round =>
        obtain ⟨td, vs, R, k, rfl, hR, hown, hJv2, hbr⟩ := hrel
        clear hcell hpop HR hbw hJv
        cases R with
        | nil =>
          have hk : ¬ (k : Int) < (elen p.1 : Int) := by have := hR.out.num; simp only [elen] at this; omega
          go_wp2
          go_roundg (gk - 1)
          case measure => have := hR.out.len; omega
          case rel => exact ⟨td, vs, hR.out.done, hown, hJv2, hbr⟩
        | node p' q' h l r =>
          have hlt : (k : Int) < (elen p.1 : Int) := by have := hR.out.num; simp only [elen] at this; omega
          have hne : ¬ p.1 = .nil := by intro e; have := hR.out.num; rw [e] at this; simp only [elen] at this; omega
          obtain rfl : pa = some ⟨b, o, Option.none⟩ := hpa.resolve_right hne
          have hbz := HK.out wr hbr
          obtain ⟨⟨a0, a1, a2, u, a3, hul⟩, _⟩ := EIn_node.1 hR.out.at_
          have hrg := x_range (x := ⟨h, l⟩) a0 a1 a2 a3
          have Hrg := hid (show wr.rangeAt b (o + k * 4) (xcells ⟨h, l⟩ u) from fun j v hj => hbz _ _ (hrg j v hj))
          have Hbz := hid hbz
          have hR2 := hid (hR.out.push hul)
          have hM := hid hR.out.mem
          have HL := hid hul
          have o5 := hul.isOne
          obtain ⟨ua, uc, rfl⟩ := hul.shape
          have hn1 : td.length ≤ 10000001 := by have := hR.out.len; have := hR.out.big; omega
          have Hn1 := hid hn1
          have hsz := hbr.size
          clear hrg hul hR hne hn1 hpa hbz a0 a1 a2 a3
          go_wp2_with (first | (refine wpList_load_mid rfl 43 _ rfl b (o + k * 4) rfl _ _ Hrg.out Tryz.underlying43 rfl sizeIE2 ?_) | (refine store_abs rfl 43 _ _ rfl _ _ _ rfl rfl ?ht sizeIE2 ?ho ?_; exact (newthere4 wr _); exact (oneX ⟨h, l⟩ _ o5); intro W hW; have HW := hid (newblk4 ⟨h, l⟩ _ hW); clear hW) | (refine wpList_load_mid rfl 43 _ rfl wr.heap.size 0 rfl _ _ HW.out.1 Tryz.underlying43 rfl sizeIE2 ?_))
          refine (Hdo.out vs h l (.slice ua (elen l) uc) _ (Hq.out.below hJv2.out (Nat.le_trans hhi hsz) HW.out.2) (fun a v hc => keeps HW.out.2 (Hbz.out a v hc)) (Nat.le_trans hsz HW.out.2.size) (hbr.trans (Gap.of lo hi HW.out.2)) HL.out hM.out.1 hM.out.2).mono ?_
          rintro e w4 ⟨rfl, hJ4, hg4⟩
          have HJ4 := hid hJ4
          have hown4 := ownM (ownB hown HW.out.2) hg4 hhi
          have hbr4 := hbr.trans ((Gap.of lo hi HW.out.2).trans hg4)
          have hr4 : w4.rangeAt wr.heap.size 0 (xcells ⟨h, l⟩ (.slice ua (elen l) uc)) := fun j x hx => by
            have h1 := HW.out.1 j x hx
            have h2 := lt_of_cellA h1
            have h3 := hg4.block wr.heap.size h2 (.inr (Nat.le_trans hhi hsz))
            unfold World.cell? at h1 ⊢
            simp only [h3]
            exact h1
          have Hr4 := hid hr4
          have hs4 := hbr4.size
          have hs4' := HW.out.2.size
          have hs4'' := hg4.size
          clear hJ4 hg4 hr4 hown hbr HW Hrg hJv2 HL
          go_wp2_with (refine wpList_load_mid rfl 43 _ rfl wr.heap.size 0 rfl _ _ Hr4.out Tryz.underlying43 rfl sizeIE2 ?_)
          refine (partsOf_is ⟨h, l⟩ _ _).mono ?_
          rintro e w5 ⟨rfl, hb5⟩
          have hown5 := ownB hown4 hb5
          have hbr5 := hbr4.trans (Gap.of lo hi hb5)
          have HJ5 := hid (Hq.out.below HJ4.out (Nat.le_trans hhi hs4) hb5)
          have HO := hid hown5
          have hs5 := hbr5.size
          have hlt5 : td.length ≤ 10000001 := Hn1.out
          obtain ⟨ta, tc, rfl⟩ : ∃ ta tc, u6 = .slice ta td.length tc := by
            rcases hown5.2 with ⟨h1, h0⟩ | ⟨g, cap, cur, h1, _⟩
            · exact ⟨_, _, by rw [h0]; exact h1⟩
            · exact ⟨_, _, h1⟩
          clear hb5 hown4 hbr4 Hr4 o5
          go_wp2_with (at_builtin; refine wpList_append_own _ rfl _ _ 228 rfl w.heap.size 41 i0 _ 1 24 Tryz.underlying228 hi0 hz0 hz1 hz2 rfl (by decide) _ _ _ rfl (hown5.alloc _) ⟨w5.heap.size, 0, Option.none⟩ 1 1 [.slice ua (elen l) uc] rfl rfl ?c1 ?c2 ?c3 ?c4 ?c5 ?_)
          case c1 => exact new1 _ _ _
          case c2 => intro x hx; simp only [List.mem_cons, List.not_mem_nil, or_false] at hx; subst hx; rfl
          case c3 => unfold maxLen; omega
          case c4 => omega
          case c5 => simp; omega
          intro v' w6 hown' hgrow _
          obtain ⟨n1, n2, n3⟩ := snocH (l := l) hown5 hbr5 hgrow hown'
          have HJ6 := hid (Hq.out (vs ++ [(h, l)]) w5 w6 HJ5.out n3.1 (fun k _ hk => n3.2 k (by omega)))
          clear hown' hgrow hown5 hbr5 HO
          go_wp2
          go_roundw
          case rel => exact ⟨td ++ [(l, .slice ua (elen l) uc)], vs ++ [(h, l)], r, k + 1, by go_num, hR2, n1, HJ6, n2⟩
          case measure => simp [RowKit.intOf]; omega
def four (h : SH) : EF := .node 0 0 h.x1.h h.x1.l (.node 0 0 h.x2.h h.x2.l (.node 0 0 h.x3.h h.x3.l (.node 0 0 h.x4.h h.x4.l .nil)))
theorem four_all (h : SH) : enall (four h) = hall h := by simp [four, enall, hall, xall]
theorem four_nodes (h : SH) : enodes (four h) = (hall h).length := by rw [← four_all, enall_len]
def fcells (h : SH) (v1 v2 v3 v4 : Value) : List Value := xcells h.x1 v1 ++ (xcells h.x2 v2 ++ (xcells h.x3 v3 ++ xcells h.x4 v4))
theorem EV.laidN {w : World} {g : Nat} {F : EF} {xs : List Value} (h : ERow w 0 F xs) (hr : w.rangeAt g 0 xs) (c : Nat) : EV w 0 F (.slice (some ⟨g, 0, Option.none⟩) (elen F) c) :=
  ⟨g, 0, _, c, rfl, .inl rfl, Nat.zero_le _, ERow.laid 0 h (by simpa [World.rangeAt] using hr)⟩
theorem laid_four {w : World} {h : SH} {v1 v2 v3 v4 : Value} {g : Nat} (hv : HV w 0 h v1 v2 v3 v4) (hr : w.rangeAt g 0 (fcells h v1 v2 v3 v4)) : EV w 0 (four h) (.slice (some ⟨g, 0, Option.none⟩) 4 4) :=
  EV.laidN (F := four h) ((ERow.one hv.e1).app (P := .node 0 0 h.x1.h h.x1.l .nil) ((ERow.one hv.e2).app (P := .node 0 0 h.x2.h h.x2.l .nil) ((ERow.one hv.e3).app (P := .node 0 0 h.x3.h h.x3.l .nil) (ERow.one hv.e4)))) hr 4
set_option maxHeartbeats 2000000 in
set_option maxRecDepth 100000 in
theorem expsOf_is (h : SH) (v1 v2 v3 v4 v : Value) (w : World) (o1 : ∃ a n c, v1 = .slice a n c) (o2 : ∃ a n c, v2 = .slice a n c) (o3 : ∃ a n c, v3 = .slice a n c) (o4 : ∃ a n c, v4 = .slice a n c) :
    Calls Tryz.prog 131 #[sagg h v1 v2 v3 v4 v] w fun e w' => ∃ g, e = .returned (.slice (some ⟨g, 0, Option.none⟩) 4 4) ∧ w'.rangeAt g 0 (fcells h v1 v2 v3 v4) ∧ w.heap.size ≤ g ∧ Below w.heap.size w w' := by
  have B := hid (alloc_below w (.cells (sarr h v1 v2 v3 v4 v) 119))
  have L : Hid (((w.alloc (.cells (sarr h v1 v2 v3 v4 v) 119)).alloc (.cells (fcells h v1 v2 v3 v4).toArray 43)).rangeAt (w.heap.size + 1) 0 (fcells h v1 v2 v3 v4)) := by
    have := blk_range (w := (w.alloc (.cells (sarr h v1 v2 v3 v4 v) 119)).alloc (.cells (fcells h v1 v2 v3 v4).toArray 43)) (b := w.heap.size + 1) (arr := (fcells h v1 v2 v3 v4).toArray) (t := 43) (fr := (0, 0)) (by
      exact (congrArg (fun n => ((w.alloc (.cells (sarr h v1 v2 v3 v4 v) 119)).alloc (.cells (fcells h v1 v2 v3 v4).toArray 43)).heap[n]?) (show w.heap.size + 1 = (w.alloc (.cells (sarr h v1 v2 v3 v4 v) 119)).heap.size by simp)).trans (by show ((w.alloc _).heap.push _)[(w.alloc _).heap.size]? = _; rw [Array.getElem?_push_size]))
    exact hid (by simpa using this)
  obtain ⟨a1, n1, c1, rfl⟩ := o1
  obtain ⟨a2, n2, c2, rfl⟩ := o2
  obtain ⟨a3, n3, c3, rfl⟩ := o3
  obtain ⟨a4, n4, c4, rfl⟩ := o4
  go_enter Tryz.func131, Tryz.ntmps131
  go_wp2
  go_ret
  exact ⟨w.heap.size + 1, rfl, L.out, Nat.le_succ _, B.out.alloc B.out.size _⟩
end Go.Proofs.YtfoghiminlbdaaaGreat
namespace Go.Proofs.YtfoghiminlbdaaaGreat
open Go.RowKit Go.Lib Go.Maps Go.Sort Go.WideMaps
set_option linter.unusedSimpArgs false
set_option linter.unusedVariables false
def Rd (w : World) (b n : Nat) (T : ByteArray → Int) : Prop := ∃ D : DataW Unit, OwnM w b n D ∧ ∀ s : ByteArray, D.atKey (.string s.data.toList) (.lit (.int .i64 0)) = .lit (.int .i64 (T s))
theorem Rd.block {w w' : World} {b n : Nat} {T : ByteArray → Int} (h : Rd w b n T) (e : w'.heap[b]? = w.heap[b]?) : Rd w' b n T := by
  obtain ⟨D, h1, h2⟩ := h; exact ⟨D, h1.block e, h2⟩
theorem Rd.lt {w : World} {b n : Nat} {T : ByteArray → Int} (h : Rd w b n T) : b < w.heap.size := by obtain ⟨D, h1, _⟩ := h; exact h1.lt
theorem Rd.below {w w' : World} {b n : Nat} {T : ByteArray → Int} (h : Rd w b n T) (hb : Below w.heap.size w w') : Rd w' b n T := h.block (hb.block _ h.lt)
theorem Rd.gap {w w' : World} {b n lo hi : Nat} {T : ByteArray → Int} (h : Rd w b n T) (hg : Gap lo hi w w') (hn : b < lo ∨ hi ≤ b) : Rd w' b n T := h.block (hg.block _ h.lt hn)
theorem Rd.more {w : World} {b n m : Nat} {T : ByteArray → Int} (h : Rd w b n T) (hm : n ≤ m) : Rd w b m T := by
  obtain ⟨D, h1, h2⟩ := h; exact ⟨D, World.ownsMap.mono h1 hm, h2⟩
theorem Rd.as {w : World} {b n : Nat} {T T' : ByteArray → Int} (h : Rd w b n T) (e : ∀ s, T s = T' s) : Rd w b n T' := by
  obtain ⟨D, h1, h2⟩ := h; exact ⟨D, h1, fun s => by rw [h2 s, e s]⟩
theorem key_ne {s t : ByteArray} (h : ¬ t = s) : (Lit.string t.data.toList) ≠ .string s.data.toList := by
  intro e; injection e with e; exact h (ba_ext e)
theorem rd_put {D : DataW Unit} {T : ByteArray → Int} (hD : IsMap D) (h : ∀ s : ByteArray, D.atKey (.string s.data.toList) (.lit (.int .i64 0)) = .lit (.int .i64 (T s))) (s : ByteArray) (k : Int) (t : ByteArray) :
    (D.put (.string s.data.toList) (.lit (.int .i64 k))).atKey (.string t.data.toList) (.lit (.int .i64 0)) = .lit (.int .i64 (if t = s then k else T t)) := by
  by_cases e : t = s
  · subst e; rw [atKey_put_same hD (by exact ⟨⟩), if_pos rfl]
  · rw [atKey_put_other (key_ne e), if_neg e]; exact h t
theorem rd_del {D : DataW Unit} {T : ByteArray → Int} (h : ∀ s : ByteArray, D.atKey (.string s.data.toList) (.lit (.int .i64 0)) = .lit (.int .i64 (T s))) (s : ByteArray) (t : ByteArray) :
    (D.del (.string s.data.toList)).atKey (.string t.data.toList) (.lit (.int .i64 0)) = .lit (.int .i64 (if t = s then 0 else T t)) := by
  by_cases e : t = s
  · subst e; rw [atKey_del_same, if_pos rfl]
  · rw [atKey_del_other (key_ne e), if_neg e]; exact h t
theorem lit_int {a b : Int} {D : DataW Unit} (h : D = .lit (.int .i64 a)) (g : D = .lit (.int .i64 b)) : b = a := by
  rw [h] at g; injection g with g; injection g with _ g; exact g.symm
theorem keyS {s : ByteArray} (hs : s.size ≤ 10000000) : keyOf Tryz.prog 9 (.string s) = some (.string s.data.toList) := keyOf_string_mk Tryz.underlying9 (by unfold maxLen; omega)
theorem ret_boolM {a b : Bool} (h : a = b) : Ending.returned (.bool a) = .returned (.bool b) := by rw [h]
abbrev nam (tb ab : Nat) : Value := .agg #[.map (some tb), .map (some ab)]
set_option maxHeartbeats 1000000 in
set_option maxRecDepth 100000 in
theorem isArr_is (tb ab n : Nat) (T : ByteArray → Int) (s : ByteArray) (hs : s.size ≤ 10000000) (b : Bool) (hb : decide (T s = 1) = b) (w : World) (hR : Rd w tb n T) :
    Calls Tryz.prog 174 #[nam tb ab, .string s] w fun e w' => e = .returned (.bool b) ∧ Below w.heap.size w w' := by
  obtain ⟨D, hown, hat0⟩ := hR
  have HO := hid (hown.alloc (.cells #[.map (some tb), .map (some ab)] 115))
  have B := hid (alloc_below w (.cells #[.map (some tb), .map (some ab)] 115))
  have hkey := keyS hs
  have HA := hid (hat0 s)
  clear hown hat0
  have hone : Hid (T s = 1 → b = true) := fun h => by rw [← hb]; simpa using h
  have hnot : Hid (¬ T s = 1 → b = false) := fun h => by rw [← hb]; simpa using h
  clear hb
  go_enter Tryz.func174, Tryz.ntmps174
  go_wp2_with (at_lookup; refine wpList_lookup_own_int _ rfl _ _ 113 rfl 9 3 .i64 keyLaw Tryz.underlying113 Tryz.underlying3 (zeroInt _) tb n D rfl HO.out _ _ rfl hkey ?_; intro c hat hwc)
  all_goals (have hc := lit_int HA.out hat; subst hc)
  all_goals go_ret
  all_goals first
    | exact retB (by first | exact hone.out ‹_› | exact hnot.out ‹_›) B.out
    | exact retB (by
        by_cases h : T s = 1
        · rw [hone.out h]; simp [h]
        · rw [hnot.out h]; simp [h]) B.out
set_option maxHeartbeats 1000000 in
set_option maxRecDepth 100000 in
theorem becomes_is (tb ab n : Nat) (T : ByteArray → Int) (s : ByteArray) (hs : s.size ≤ 10000000) (k : Int) (hk : 1 ≤ k ∧ k ≤ 3) (hn : n < 10000000) (b : Bool) (hb : decide (T s = 0 ∨ T s = k) = b) (w : World) (hR : Rd w tb n T) :
    Calls Tryz.prog 175 #[nam tb ab, .string s, .int .i64 k] w fun e w' => e = .returned (.bool b) ∧ Rd w' tb (n + 1) (setT T s k) ∧ Gap tb (tb + 1) w w' := by
  have hlt := hR.lt
  have HR0 := hid hR
  obtain ⟨D, hown, hat0⟩ := hR
  have HO := hid (hown.alloc (.cells #[.map (some tb), .map (some ab)] 115))
  have B := hid (alloc_below w (.cells #[.map (some tb), .map (some ab)] 115))
  have hkey := keyS hs
  have HA := hid (hat0 s)
  have HA0 := hid hat0
  have hD := hid (hown.tidy keyLaw).isMap
  have hnI : (n : Int) < 10000000 := by omega
  have Hlt := hid hlt
  clear hown hat0 hlt
  have Hb := hid hb
  clear hb
  obtain ⟨k1, k2⟩ := hk
  by_cases h0 : T s = 0
  · have hb1 := hid (show b = true by rw [← Hb.out]; simp [h0])
    have c0 : (w.alloc (.cells #[.map (some tb), .map (some ab)] 115)).cell? ⟨w.heap.size, 0, Option.none⟩ = some (.map (some tb)) := box_cell (Below.refl _ _) rfl
    have HS := hid (show ∀ t, (if t = s then k else T t) = setT T s k t from fun t => by
      unfold setT
      by_cases e : t = s
      · rw [if_pos e, if_pos ⟨e, h0⟩]
      · rw [if_neg e, if_neg (fun c => e c.1)])
    have HA1 := hid (HA.out.trans (by rw [h0]))
    clear h0
    go_enter Tryz.func175, Tryz.ntmps175
    go_wp2_with (first
      | (at_lookup; refine wpList_lookup_own_int _ rfl _ _ 113 rfl 9 3 .i64 keyLaw Tryz.underlying113 Tryz.underlying3 (zeroInt _) tb n D rfl HO.out _ _ rfl hkey ?_; intro c hat hwc; obtain rfl := lit_int HA1.out hat)
      | (at_mapUpdate; refine wpList_mapUpdate_own _ rfl _ _ _ 113 rfl 9 3 keyLaw Tryz.underlying113 _ tb n _ rfl HO.out (by unfold maxLen; omega) _ _ _ rfl rfl hkey _ [] (plainElem_int Tryz.underlying3 (WalkArith.wf_i64 (by omega))) ?_)
      | go_in)
    intro w1 ho1 hg1
    have hgap := gap_map Hlt.out hg1
    have c1 : w1.cell? ⟨w.heap.size, 0, Option.none⟩ = some (.map (some tb)) := by
      have := hg1.block w.heap.size (by simp) (fun e => by injection e with e; have := Hlt.out; omega)
      unfold World.cell? at c0 ⊢; simp only [this]; exact c0
    have HR1 : Hid (Rd w1 tb (n + 1) (setT T s k)) := hid (Rd.as ⟨_, ho1, rd_put hD.out HA0.out s k⟩ HS.out)
    have HO1 := hid ho1
    have HP := hid (show (D.put (.string s.data.toList) (.lit (.int .i64 k))).atKey (.string s.data.toList) (.lit (.int .i64 0)) = .lit (.int .i64 k) by rw [rd_put hD.out HA0.out s k s, if_pos rfl])
    have HG := hid hgap
    clear hgap hg1 ho1 c0
    go_wp2_with (at_lookup; refine wpList_lookup_own_int _ rfl _ _ 113 rfl 9 3 .i64 keyLaw Tryz.underlying113 Tryz.underlying3 (zeroInt _) tb (n + 1) _ rfl HO1.out _ _ rfl hkey ?_; intro c hat hwc; obtain rfl := lit_int HP.out hat)
    go_ret
    exact ⟨ret_boolM hb1.out.symm, HR1.out, HG.out⟩
  · have HS := hid (show ∀ t, T t = setT T s k t from fun t => by unfold setT; rw [if_neg (fun c => h0 c.2)])
    have HR1 : Hid (Rd (w.alloc (.cells #[.map (some tb), .map (some ab)] 115)) tb (n + 1) (setT T s k)) := hid (Rd.as ((HR0.out.below B.out).more (Nat.le_succ _)) HS.out)
    have HG := hid (Gap.of tb (tb + 1) B.out)
    obtain ⟨c, Hc⟩ : ∃ c, Hid (c = T s) := ⟨_, rfl⟩
    rw [← Hc.out] at h0
    have HA1 := hid (HA.out.trans (by rw [← Hc.out]))
    have hne := int_ne h0
    have hbb : Hid (b = decide (c = k)) := hid (by rw [← Hb.out, ← Hc.out]; simp [h0])
    clear HA Hb HS HR0 Hc
    by_cases h1 : c = k
    · have h2 := hid (show b = true by rw [hbb.out]; exact decide_eq_true h1)
      subst h1
      go_enter Tryz.func175, Tryz.ntmps175
      go_wp2_with (at_lookup; refine wpList_lookup_own_int _ rfl _ _ 113 rfl 9 3 .i64 keyLaw Tryz.underlying113 Tryz.underlying3 (zeroInt _) tb n D rfl HO.out _ _ rfl hkey ?_; intro c' hat hwc; obtain rfl := lit_int HA1.out hat; clear hat hwc)
      go_ret
      exact ⟨ret_boolM h2.out.symm, HR1.out, HG.out⟩
    · have h2 := hid (show b = false by rw [hbb.out]; exact decide_eq_false h1)
      have hne1 := int_ne h1
      go_enter Tryz.func175, Tryz.ntmps175
      go_wp2_with (at_lookup; refine wpList_lookup_own_int _ rfl _ _ 113 rfl 9 3 .i64 keyLaw Tryz.underlying113 Tryz.underlying3 (zeroInt _) tb n D rfl HO.out _ _ rfl hkey ?_; intro c' hat hwc; obtain rfl := lit_int HA1.out hat; clear hat hwc)
      go_ret
      exact ⟨ret_boolM h2.out.symm, HR1.out, HG.out⟩
def eFitB (T : ByteArray → Int) (a : EN) : Bool := (!decide (a.1.k = 3) || decide (T a.1.s = 1)) && (!decide (a.1.k = 2) || !decide (T a.1.s = 1))
abbrev BoolAt (w : World) (b : Nat) (x : Bool) : Prop := w.heap[b]? = some (.cells #[.bool x] 4 (0, 0))
theorem bool_set {w w1 : World} {fb : Nat} {x y : Bool} (hb : Below w.heap.size w w1) (h : BoolAt w fb x) : BoolAt (w1.setCell ⟨fb, 0, Option.none⟩ (.bool y)) fb y ∧ Gap fb (fb + 1) w (w1.setCell ⟨fb, 0, Option.none⟩ (.bool y)) := by
  have hlt := lt_heap h
  have h1 : w1.heap[fb]? = some (.cells #[.bool x] 4 (0, 0)) := (hb.block _ hlt).trans h
  have hlt1 := lt_heap h1
  have h' : w1.heap[fb] = .cells #[.bool x] 4 (0, 0) := by simpa [Array.getElem?_eq_getElem hlt1] using h1
  refine ⟨?_, hb.os, hb.tape, hb.output, by simpa using hb.size, fun k hk hc => ?_⟩
  · show (w1.heap.modify fb _)[fb]? = _
    rw [Array.getElem?_eq_getElem (by simpa using hlt1), Array.getElem_modify_self, h']
    rfl
  · rw [Below.heap_setCell _ _ _ _ (by show k ≠ fb; omega)]; exact hb.block k hk
theorem bool_cell {w w1 : World} {fb : Nat} {x : Bool} (hb : Below w.heap.size w w1) (h : BoolAt w fb x) : w1.cell? ⟨fb, 0, Option.none⟩ = some (.bool x) ∧ w1.frozen? ⟨fb, 0, Option.none⟩ = false := by
  have h1 : w1.heap[fb]? = some (.cells #[.bool x] 4 (0, 0)) := (hb.block _ (lt_heap h)).trans h
  simp [World.cell?, World.frozen?, h1]
set_option maxHeartbeats 2000000 in
set_option maxRecDepth 100000 in
theorem expFit1_is (x : X) (v : Value) (w : World) (nb fb tb ab n : Nat) (T : ByteArray → Int) (hnb : w.rangeAt nb 0 [.map (some tb), .map (some ab)]) (hR : Rd w tb n T) (y : Bool) (hf : BoolAt w fb y) (hs : x.h.s.size ≤ 10000000) :
    Calls Tryz.prog 173 #[.agg #[.int .i64 x.h.k, .int .i64 x.h.n, .string x.h.s, v], .pointer (some ⟨nb, 0, Option.none⟩), .pointer (some ⟨fb, 0, Option.none⟩)] w fun e w' => e = .returned (.tuple #[]) ∧ BoolAt w' fb (y && eFitB T (x.h, x.l)) ∧ Gap fb (fb + 1) w w' := by
  obtain ⟨h, l⟩ := x
  obtain ⟨kk, nn, s⟩ := h
  simp only at hs ⊢
  have B := hid (alloc_below w (.cells #[.int .i64 kk, .int .i64 nn, .string s, v] 43))
  have RG := hid (rangeAt_later hnb B.out)
  have n0 : (w.alloc (.cells #[.int .i64 kk, .int .i64 nn, .string s, v] 43)).cell? ⟨nb, 0, Option.none⟩ = some (.map (some tb)) := RG.out 0 _ rfl
  have n1 : (w.alloc (.cells #[.int .i64 kk, .int .i64 nn, .string s, v] 43)).cell? ⟨nb, 1, Option.none⟩ = some (.map (some ab)) := RG.out 1 _ rfl
  obtain ⟨b, Hb⟩ : ∃ b, Hid (decide (T s = 1) = b) := ⟨_, rfl⟩
  have CI := hid (isArr_is tb ab n T s hs b Hb.out _ (hR.below B.out))
  have HF := hid hf
  have HK : Hid (∀ w1, Below (w.alloc (.cells #[.int .i64 kk, .int .i64 nn, .string s, v] 43)).heap.size (w.alloc (.cells #[.int .i64 kk, .int .i64 nn, .string s, v] 43)) w1 → Below w.heap.size w w1) := hid (fun w1 h => below_alloc h)
  clear hnb hR hf
  by_cases h3 : kk = 3
  · have E : Hid (eFitB T ((⟨kk, nn, s⟩ : EH), l) = b) := hid (by unfold eFitB; simp only [h3]; rw [Hb.out]; simp)
    subst h3
    rw [E.out]
    go_enter Tryz.func173, Tryz.ntmps173
    go_wp2_with fail
    refine CI.out.mono ?_
    rintro e w1 ⟨rfl, hb1⟩
    have HB1 := hid (HK.out w1 hb1)
    obtain ⟨f0, f1⟩ := bool_cell HB1.out HF.out
    have c0 := box_cell (i := 0) hb1 rfl
    clear hb1 CI
    cases b with
    | false =>
      go_wp2
      go_end0
      exact ⟨rfl, by simpa using bool_set HB1.out HF.out⟩
    | true =>
      go_wp2
      go_end0
      exact ⟨rfl, by rw [Bool.and_true]; exact (HB1.out.block _ (lt_heap HF.out)).trans HF.out, Gap.of _ _ HB1.out⟩
  · by_cases h2 : kk = 2
    · have E : Hid (eFitB T ((⟨kk, nn, s⟩ : EH), l) = !b) := hid (by unfold eFitB; simp only [h2]; rw [Hb.out]; simp)
      subst h2
      rw [E.out]
      go_enter Tryz.func173, Tryz.ntmps173
      go_wp2_with fail
      refine CI.out.mono ?_
      rintro e w1 ⟨rfl, hb1⟩
      have HB1 := hid (HK.out w1 hb1)
      obtain ⟨f0, f1⟩ := bool_cell HB1.out HF.out
      clear hb1 CI
      cases b with
      | true =>
        go_wp2
        go_end0
        exact ⟨rfl, by simpa using bool_set HB1.out HF.out⟩
      | false =>
        go_wp2
        go_end0
        exact ⟨rfl, by rw [Bool.not_false, Bool.and_true]; exact (HB1.out.block _ (lt_heap HF.out)).trans HF.out, Gap.of _ _ HB1.out⟩
    · have E : Hid (eFitB T ((⟨kk, nn, s⟩ : EH), l) = true) := hid (by unfold eFitB; simp only [h2, h3]; simp)
      have e3 := int_ne h3
      have e2 := int_ne h2
      rw [E.out]
      go_enter Tryz.func173, Tryz.ntmps173
      go_wp2
      go_end0
      exact ⟨rfl, by rw [Bool.and_true]; exact (B.out.block _ (lt_heap HF.out)).trans HF.out, Gap.of _ _ B.out⟩
theorem perm_all {α : Type} {p : α → Bool} {l m : List α} (h : l.Perm m) : l.all p = m.all p := by
  rw [Bool.eq_iff_iff, List.all_eq_true, List.all_eq_true]
  exact ⟨fun g x hx => g x (h.symm.subset hx), fun g x hx => g x (h.subset hx)⟩
set_option maxHeartbeats 2000000 in
set_option maxRecDepth 100000 in
theorem expsFit_is (F : EF) (hF : enodes F ≤ 10000000) (hs : ∀ a ∈ enall F, a.1.s.size ≤ 10000000) (tb ab n : Nat) (T : ByteArray → Int) (w : World) (v : Value) (hv : EV w 0 F v) (hR : Rd w tb n T) :
    Calls Tryz.prog 130 #[nam tb ab, v] w fun e w' => e = .returned (.bool ((enall F).all (eFitB T))) ∧ Below w.heap.size w w' := by
  have hmf : ∀ (fn : Fn) (first cap : Array Value) (w : World), (Instr.makeFunc fn first cap).run Tryz.prog w = .ok (.func fn first cap) w := fun _ _ _ _ => rfl
  have B := hid ((alloc_below w (.cells #[.map (some tb), .map (some ab)] 115)).alloc (by simp) (.cells #[.bool true] 4))
  obtain ⟨W, HW⟩ : ∃ W, Hid (W = (w.alloc (.cells #[.map (some tb), .map (some ab)] 115)).alloc (.cells #[.bool true] 4)) := ⟨_, rfl⟩
  have hn : W.rangeAt w.heap.size 0 [.map (some tb), .map (some ab)] := by
    rw [HW.out]
    exact blk_range (arr := #[.map (some tb), .map (some ab)]) (by rw [Below.heap_alloc _ _ _ (by simp)]; exact heap_last _ _)
  have hf : BoolAt W (w.heap.size + 1) true := by
    rw [HW.out]
    have := heap_last (w.alloc (.cells #[.map (some tb), .map (some ab)] 115)) (.cells #[.bool true] 4); rwa [World.size_alloc] at this
  have hBW : Below w.heap.size w W := by rw [HW.out]; exact B.out
  have hsz : W.heap.size = w.heap.size + 2 := by rw [HW.out]; simp
  have VI : Hid (Calls Tryz.prog 151 #[v, .func (.func 101) #[] #[], .func (.func 173) #[] #[.pointer (some ⟨w.heap.size, 0, Option.none⟩), .pointer (some ⟨w.heap.size + 1, 0, Option.none⟩)]] W fun e w' => e = .returned (.tuple #[]) ∧ BoolAt w' (w.heap.size + 1) ((enall F).all (eFitB T)) ∧ Below w.heap.size w w') := by
    refine hid ((visitAllEK_is F hF w W (w.heap.size + 1) (w.heap.size + 2) (fun w' hgap a u hc => ?_) (by omega) v hv 173 (fun _ _ => rfl) #[.pointer (some ⟨w.heap.size, 0, Option.none⟩), .pointer (some ⟨w.heap.size + 1, 0, Option.none⟩)] (fun vs w1 => BoolAt w1 (w.heap.size + 1) (vs.all (eFitB T))) ?_ hf ?_).mono ?_)
    · have hlt := lt_of_cellA hc
      have h1 := keeps hBW hc
      have := hgap.block a.block (by omega) (.inl (by omega))
      unfold World.cell? at h1 ⊢; rw [this]; exact h1
    · intro vs w1 w2 h1 _ hk
      exact (hk _ (by omega) (by omega)).trans h1
    · intro vs eh el eu w1 hj1 _ _ hgap _ hm hln
      have hr1 : w1.rangeAt w.heap.size 0 [.map (some tb), .map (some ab)] := fun j u hj => by
        have h1 := hn j u hj
        have := hgap.block w.heap.size (by omega) (.inl (by omega))
        unfold World.cell? at h1 ⊢; simp only [this]; exact h1
      have hR1 : Rd w1 tb n T := (hR.below hBW).gap hgap (.inl (by have := hR.lt; omega))
      refine (expFit1_is ⟨eh, el⟩ eu w1 w.heap.size (w.heap.size + 1) tb ab n T hr1 hR1 _ hj1 (hs _ hm)).mono ?_
      rintro e w2 ⟨rfl, h1, h2⟩
      refine ⟨rfl, ?_, h2⟩
      show BoolAt w2 (w.heap.size + 1) ((vs ++ [(eh, el)]).all (eFitB T))
      rw [List.all_append, List.all_cons, List.all_nil, Bool.and_true]
      exact h1
    · rintro e w3 ⟨rfl, ⟨ws, k1, hp⟩, hgap⟩
      refine ⟨rfl, by rw [← perm_all hp]; exact k1, hBW.trans (hgap.below (by omega) (by omega))⟩
  rw [HW.out] at VI
  clear hn hf hBW hsz HW hR hs hv
  go_enter Tryz.func130, Tryz.ntmps130
  go_wp2_with fail
  refine VI.out.mono ?_
  rintro e w3 ⟨rfl, hb3, hbel⟩
  have f3 := (bool_cell (Below.refl _ _) hb3).1
  have HB := hid hbel
  clear hb3 hbel VI
  go_wp2
  go_ret
  exact ⟨rfl, HB.out⟩
end Go.Proofs.YtfoghiminlbdaaaGreat
