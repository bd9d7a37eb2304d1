import Derived.Test.YtpinockfakndlaaGreatP15ofFnEvals
import Derived.Test.YtpinockfakndlaaGreatP12ofFnEvals
set_option maxHeartbeats 4000000
set_option maxRecDepth 100000
namespace Go.Proofs.YtpinockfakndlaaGreat
open Go.RowKit Go.Lib
set_option linter.unusedSimpArgs false
set_option linter.unusedVariables false
theorem EVx.two {n lo B c : Nat} {w : World} {x y : X} {u v : Value} (hx : EVx n w lo x.l u) (hy : EVx n w lo y.l v) (hr : w.rangeAt B 0 (xC x u ++ xC y v)) (hlo : lo ≤ B) (hne : B ≠ n) : EVx n w lo (.node 0 0 x.h x.l (.node 0 0 y.h y.l .nil)) (.slice (some ⟨B, 0, Option.none⟩) 2 c) := fun W hW => by
  have k : ∀ j z, (xC x u ++ xC y v)[j]? = some z → W.cell? ⟨B, 0 + j, Option.none⟩ = some z := fun j z hj => hW _ _ hlo hne (hr j z hj)
  exact ⟨B, 0, _, c, rfl, .inl rfl, hlo, EIn_node.2 ⟨⟨k 0 _ rfl, k 1 _ rfl, k 2 _ rfl, u, k 3 _ rfl, hx W hW⟩, EIn_node.2 ⟨⟨k 4 _ rfl, k 5 _ rfl, k 6 _ rfl, v, k 7 _ rfl, hy W hW⟩, trivial⟩⟩⟩
theorem l3Two_x (k : Int) (x y : X) (n lo : Nat) (w : World) (u v : Value) (hu : EVx n w lo x.l u) (hv : EVx n w lo y.l v) (hlo : lo ≤ w.heap.size) (hn : n < w.heap.size) : Calls Tryz.prog 75 #[.int .i64 k, .agg (xC x u).toArray, .agg (xC y v).toArray] w fun e w' => ∃ z, e = .returned (.agg (xC (twoX k x y) z).toArray) ∧ EVx n w' lo (twoX k x y).l z ∧ Below w.heap.size w w' := by
  show Calls Tryz.prog 75 #[.int .i64 k, .agg #[.int .i64 x.h.k, .int .i64 x.h.n, .string x.h.s, u], .agg #[.int .i64 y.h.k, .int .i64 y.h.n, .string y.h.s, v]] w _
  have Hu := hid hu
  have Hv := hid hv
  obtain ⟨ua, uc, rfl⟩ := hu.ev.shape
  obtain ⟨va, vc, rfl⟩ := hv.ev.shape
  clear hu hv
  go_enter Tryz.func75, Tryz.ntmps75
  go_wp2
  have hb := (((aB w (.cells #[.int .i64 x.h.k, .int .i64 x.h.n, .string x.h.s, .slice ua (elen x.l) uc] 43)).alloc (by simp) (.cells #[.int .i64 y.h.k, .int .i64 y.h.n, .string y.h.s, .slice va (elen y.l) vc] 43)).alloc (by simp; omega) (.cells #[.int .i64 k, .int .i64 0, .string ⟨#[]⟩, .slice (some ⟨w.heap.size + 1 + 1 + 1, 0, Option.none⟩) 2 2] 43)).alloc (by simp; omega) (.cells (xC x (.slice ua (elen x.l) uc) ++ xC y (.slice va (elen y.l) vc)).toArray 43)
  refine bodyPost_ret (v := .agg #[.int .i64 k, .int .i64 0, .string ⟨#[]⟩, .slice (some ⟨w.heap.size + 1 + 1 + 1, 0, Option.none⟩) 2 2]) (by simp [results, Tryz.results75, go_sem]) rfl ⟨_, rfl, EVx.two (Hu.out.later hb) (Hv.out.later hb) (last_range _ _ _ _ (by simp)) (by omega) (by omega), hb⟩
structure MulS (b : Nat) (v : Value) (ts : List T) (deep : Int) (w : World) (n : Nat) (x : X) (u : Value) (p : Nat) (bad : Bool) (wr : World) : Prop where
  rg : wr.rangeAt n 0 (xC x u)
  th : wr.there n 0 4
  tN : wr.there w.heap.size 0 4
  ev : EVx n wr (w.heap.size + 1) x.l u
  rd : Rd5 b v ts p deep bad wr
  wr : Wr b w wr
  hb : b < w.heap.size
  hn : w.heap.size < n
section
variable {b : Nat} {v : Value} {ts : List T} {deep : Int} {w : World} {n : Nat} {x : X} {u : Value} {p : Nat} {bad : Bool} {wr : World}
theorem MulS.lt (s : MulS b v ts deep w n x u p bad wr) : n < wr.heap.size := lt_of_cellA (s.rg 0 _ rfl)
theorem MulS.step {w' : World} {p' : Nat} {bad' : Bool} {deep' : Int} (s : MulS b v ts deep w n x u p bad wr) (hw : Wr b wr w') (hr : Rd5 b v ts p' deep' bad' w') : MulS b v ts deep' w n x u p' bad' w' :=
  ⟨range_wr5 s.rg hw (by have := s.hb; have := s.hn; omega), there_wr s.th hw (by have := s.hb; have := s.hn; omega), there_wr s.tN hw (by have := s.hb; omega), s.ev.wr hw (by have := s.hb; omega), hr, s.wr.trans hw, s.hb, s.hn⟩
theorem MulS.later {w' : World} (s : MulS b v ts deep w n x u p bad wr) (hb : Below wr.heap.size wr w') : MulS b v ts deep w n x u p bad w' := s.step (.of_below hb) (s.rd.later hb)
theorem Wr.setsOut {b n o : Nat} {w wr : World} {vs : List Value} (h : Wr b w wr) (hn : w.heap.size ≤ n) : Wr b w (wr.setCells n o vs) := by
  have hB : Below n wr (wr.setCells n o vs) := below_sets _ _ (Below.refl _ _) (Nat.le_refl _)
  exact ⟨hB.os.trans h.os, hB.tape.trans h.tape, hB.output.trans h.output, Nat.le_trans h.size hB.size, fun k hk hne => (hB.block k (by omega)).trans (h.block k hk hne)⟩
theorem Rd5.out {n o : Nat} {vs : List Value} (s : Rd5 b v ts p deep bad wr) (hn : b < n) : Rd5 b v ts p deep bad (wr.setCells n o vs) := by
  have hB : Below n wr (wr.setCells n o vs) := below_sets _ _ (Below.refl _ _) (Nat.le_refl _)
  refine ⟨World.rangeAt_setCells_apart s.rg _ _ _ (.inl (by omega)), World.there_setCells s.th _ _ _, ?_, s.hp, s.hts⟩
  obtain ⟨ao, cap, e, h⟩ := s.row
  refine ⟨ao, cap, e, ?_⟩
  rcases h with h | ⟨g, e2, hg, hc⟩
  · exact .inl h
  · have kc : ∀ (o : Nat) (z : Value), wr.cell? ⟨g, o, Option.none⟩ = some z → (wr.setCells n _ vs).cell? ⟨g, o, Option.none⟩ = some z := fun o z hz => (hB.cell (p := ⟨g, o, Option.none⟩) (show g < n by omega)).trans hz
    exact .inr ⟨g, e2, hg, fun i t hi => ⟨kc _ _ (hc i t hi).1, kc _ _ (hc i t hi).2.1, kc _ _ (hc i t hi).2.2⟩⟩
theorem MulS.put {x' : X} {u' : Value} {W : World} (s : MulS b v ts deep w n x u p bad wr) (he : EVx n wr (w.heap.size + 1) x'.l u') (hW : wr.setCells n 0 (xC x' u') = W) : MulS b v ts deep w n x' u' p bad W := by
  subst hW
  exact ⟨World.rangeAt_setCells_same _ _ _ _ s.th, World.there_setCells s.th _ _ _, World.there_setCells s.tN _ _ _, he.sets _ _, s.rd.out (by have := s.hb; have := s.hn; omega), s.wr.setsOut (Nat.le_of_lt s.hn), s.hb, s.hn⟩
theorem MulS.new {w2 W : World} (hb : b < w.heap.size) (hN : w.heap.size + 1 ≤ w2.heap.size) (tN : w2.there w.heap.size 0 4) (he : EV w2 (w.heap.size + 1) x.l u) (rd : Rd5 b v ts p deep bad w2) (hw : Wr b w w2) (hW : (w2.alloc (.cells zero4 43)).setCells w2.heap.size 0 (xC x u) = W) : MulS b v ts deep w w2.heap.size x u p bad W := by
  have HW := newblk4 x u hW
  refine ⟨HW.1, ?_, there_later tN HW.2, EVx.of_old he (b := b) (.of_below HW.2) (by omega) (Nat.le_refl _), rd.later HW.2, hw.trans (.of_below HW.2), hb, by omega⟩
  rw [← hW]
  exact World.there_setCells (newthere4 w2 _) _ _ _
end
def MulR (ts : List T) (sub : List T → Rest) (tot : Rest) (x : X) (p : Nat) (bad : Bool) : Prop := (bad = true → tot = none) ∧ (bad = false → ∃ m, (ts.drop p).length ≤ m ∧ mulLoop sub m x (ts.drop p) = tot)
theorem drop_len (ts : List T) (p p' : Nat) (h : p ≤ p') : (ts.drop p').length ≤ (ts.drop p).length := by rw [List.length_drop, List.length_drop]; omega
theorem MulR.start {ts : List T} {sub : List T → Rest} {p p1 : Nat} {bad bad1 : Bool} {x : X} (hr : StE5 ts (resB bad (atomP sub) (ts.drop p)) x p1 bad1) (hle : p ≤ p1) : MulR ts sub (resB bad (mulP sub) (ts.drop p)) x p1 bad1 := by
  cases bad with
  | true => have h : bad1 = true := hr; subst h; exact ⟨fun _ => rfl, fun h => by cases h⟩
  | false =>
    show MulR ts sub (mulP sub (ts.drop p)) x p1 bad1
    have hr : StE5 ts (atomP sub (ts.drop p)) x p1 bad1 := hr
    unfold mulP
    cases h : atomP sub (ts.drop p) with
    | none => rw [h] at hr; have hr : bad1 = true := hr; subst hr; exact ⟨fun _ => rfl, fun h => by cases h⟩
    | some y =>
      obtain ⟨e, l1⟩ := y
      rw [h] at hr
      obtain ⟨rfl, rfl, rfl⟩ := hr
      exact ⟨fun h => (by cases h), fun _ => ⟨_, drop_len ts p p1 hle, rfl⟩⟩
theorem MulR.stop {ts : List T} (hG : ∀ t ∈ ts, Good t) {sub : List T → Rest} {tot : Rest} {p : Nat} {bad : Bool} {x : X} (h : MulR ts sub tot x p bad) (hR : isR bad 4 [42] (ts.drop p) = false) : StE5 ts tot x p bad := by
  cases bad with
  | true => rw [h.1 rfl]; rfl
  | false =>
    obtain ⟨m, _, e⟩ := h.2 rfl
    rw [mark_eat (by decide) false _ (drop_good hG p)] at hR
    have he : eat [42] (ts.drop p) = none := by
      cases h : eat [42] (ts.drop p) with
      | none => rfl
      | some l => rw [h] at hR; cases hR
    rw [← e]
    cases m with
    | zero => exact ⟨rfl, rfl, rfl⟩
    | succ m => unfold mulLoop; rw [he]; exact ⟨rfl, rfl, rfl⟩
theorem MulR.next {ts : List T} (hG : ∀ t ∈ ts, Good t) {sub : List T → Rest} {tot : Rest} {p p2 : Nat} {bad bad2 : Bool} {x x2 : X} (h : MulR ts sub tot x p bad) (hR : isR bad 4 [42] (ts.drop p) = true) (hr : StE5 ts (resB bad (atomP sub) (ts.drop (p + 1))) x2 p2 bad2) (hle : p + 1 ≤ p2) : MulR ts sub tot (twoX 6 x x2) p2 bad2 := by
  obtain ⟨rfl, t, ht, hs, hlt⟩ := isR_true hR
  obtain ⟨m, hm, e⟩ := h.2 rfl
  have he : eat [42] (ts.drop p) = some (ts.drop (p + 1)) := by rw [dropT ht]; simp [eat, hs]
  have hl := eat_len he
  cases m with
  | zero => omega
  | succ m =>
    unfold mulLoop at e
    rw [he] at e
    simp only at e
    have hr : StE5 ts (atomP sub (ts.drop (p + 1))) x2 p2 bad2 := hr
    cases ha : atomP sub (ts.drop (p + 1)) with
    | none => rw [ha] at hr e; have hr : bad2 = true := hr; subst hr; exact ⟨fun _ => e.symm, fun h => by cases h⟩
    | some y =>
      obtain ⟨y, l2⟩ := y
      rw [ha] at hr e
      obtain ⟨rfl, rfl, rfl⟩ := hr
      exact ⟨fun h => (by cases h), fun _ => ⟨m, by have := drop_len ts (p + 1) p2 hle; omega, e⟩⟩
def atOf (b : Nat) (wr : World) : Nat := match wr.cell? ⟨b, 1, Option.none⟩ with
  | some (.int _ n) => 601 - n.toNat
  | _ => 0
theorem atOf_rd {b : Nat} {v : Value} {ts : List T} {p : Nat} {deep : Int} {bad : Bool} {w : World} (s : Rd5 b v ts p deep bad w) : atOf b w = 601 - p := by unfold atOf; rw [s.cells.2.1]; simp
theorem l5Mul_of (b : Nat) (v : Value) (ts : List T) (hG : ∀ t ∈ ts, Good t) (d : Nat) (deep : Int) (p : Nat) (bad : Bool) (ih : bad = false → ∀ (p : Nat) (bad : Bool) (w : World), Rd5 b v ts p deep bad w → Calls Tryz.prog 135 #[.pointer (some ⟨b, 0, none⟩)] w (PostE b v ts deep (resB bad (sumP d) (ts.drop p)) p w)) (w : World) (st : Rd5 b v ts p deep bad w) :
    Calls Tryz.prog 157 #[.pointer (some ⟨b, 0, none⟩)] w (PostE b v ts deep (resB bad (mulP (sumP d)) (ts.drop p)) p w) := by
  have Hat := hid (fun (q : Nat) (c : Bool) (h : c = false → bad = false) => l5Atom_of b v ts hG d deep q c (fun e => ih (h e)))
  have hbN := st.lt
  have b0 := aB w (.cells zero4 43)
  have S0 := hid (st.later b0)
  have T0 := hid (newthere4 w 43)
  have W0 := hid (Wr.of_below (b := b) b0)
  clear ih st b0
  go_enter Tryz.func157, Tryz.ntmps157
  go_wp2_with fail
  refine (Hat.out p bad (fun h => h) _ S0.out).mono ?_
  rintro e w2 ⟨x2, u2, p2, b2, rfl, g2⟩
  have o2 := oneX x2 u2 g2.ev.isOne
  have z2 := g2.wr.size
  rw [World.size_alloc] at z2
  have K2 := hid g2
  clear g2
  go_wp2_with (refine sA rfl 43 _ _ rfl w2.heap.size 0 (xC x2 u2).toArray rfl rfl (newthere4 w2 _) sizeIE2 o2 ?_; intro W hW; have M2 := hid (MulS.new (w := w) (x := x2) (u := u2) hbN (by omega) (there_wr T0.out K2.out.wr (by omega)) (by have := K2.out.ev; rw [World.size_alloc] at this; exact this) K2.out.rd (W0.out.trans K2.out.wr) hW); clear hW)
  obtain ⟨n, hn⟩ : ∃ n, w2.heap.size = n := ⟨_, rfl⟩
  rw [hn] at M2 ⊢
  have R2 := hid (MulR.start K2.out.rel K2.out.le)
  have L2 := hid K2.out.le
  have B2 : Hid (b2 = false → bad = false) := hid (fun h => by cases bad with | false => rfl | true => have hr : b2 = true := K2.out.rel; rw [h] at hr; cases hr)
  obtain ⟨tot, Htot⟩ : ∃ r, Hid (resB bad (mulP (sumP d)) (ts.drop p) = r) := ⟨_, rfl⟩
  rw [Htot.out] at R2
  clear K2 hn z2 S0 T0 W0 o2
  simp only [Act.put]
  go_loopw [8] (fun _ wr => ∃ (x : X) (u : Value) (p1 : Nat) (bad1 : Bool), Hid (MulS b v ts deep w n x u p1 bad1 wr) ∧ Hid (MulR ts (sumP d) tot x p1 bad1) ∧ Hid (p ≤ p1) ∧ Hid (bad1 = false → bad = false)) (fun _ wr => atOf b wr)
  case atStart => exact ⟨x2, u2, p2, b2, M2, R2, L2, B2⟩
  case round =>
    obtain ⟨x, u, p1, bad1, hM, hRl, hL, hB⟩ := hrel
    clear M2 R2 L2 B2
    obtain ⟨R, HR⟩ : ∃ R, Hid (isR bad1 4 [42] (ts.drop p1) = R) := ⟨_, rfl⟩
    go_wp2_with fail
    refine (l5Mark_is b v ts p1 deep bad1 [42] R HR.out _ hM.out.rd).mono ?_
    rintro e w3 ⟨rfl, s3, h3⟩
    have M3 := hid (hM.out.step h3 s3)
    have A1 := hid (atOf_rd hM.out.rd)
    clear s3 h3
    cases R with
    | false =>
      have M3' : Hid (MulS b v ts deep w n x u p1 bad1 w3) := M3
      have HF := hid (hRl.out.stop hG HR.out)
      have th := M3'.out.tN
      have oF := oneX x u M3'.out.ev.ev.isOne
      clear M3
      go_wp2_with (first | (refine wpList_load_mid rfl 43 _ rfl n 0 rfl _ _ M3'.out.rg Tryz.underlying43 rfl sizeIE2 ?_) | (refine sA rfl 43 _ _ rfl w.heap.size 0 (xC x u).toArray rfl rfl th sizeIE2 oF ?_; intro W hW))
      have HW := Got5.close (p := p) (res := tot) hbN th M3'.out.ev.ev M3'.out.rd M3'.out.wr hL.out HF.out hW
      have hlv := run_loadVar_mid W w.heap.size 0 _ _ _ HW.2 Tryz.underlying43 rfl sizeIE2
      refine bodyPost_ret (v := .agg (xC x u).toArray) ?_ rfl ⟨x, u, _, _, rfl, by have h := HW.1; rw [← Htot.out] at h; exact h⟩
      simp [results, Tryz.results157, asAddr, hlv, Act.put]
      try rfl
    | true =>
      have M3' : Hid (MulS b v ts deep w n x u (p1 + 1) bad1 w3) := M3
      clear M3
      go_wp2_with fail
      refine (Hat.out (p1 + 1) bad1 hB.out _ M3'.out.rd).mono ?_
      rintro e w4 ⟨x4, u4, p4, b4, rfl, g4⟩
      have o4 := oneX x4 u4 g4.ev.isOne
      have M4 := hid (M3'.out.step g4.wr g4.rd)
      have E4 := hid (EVx.fresh (g := n) (lo := w.heap.size + 1) g4.ev (by have := M3'.out.lt; have := M3'.out.hn; omega) M3'.out.lt)
      have R4 := hid (hRl.out.next hG HR.out g4.rel g4.le)
      have L4 := hid g4.le
      have B4 : Hid (b4 = false → bad = false) := hid (fun _ => hB.out (isR_true HR.out).1)
      have N4 := M4.out.lt
      clear g4
      go_wp2_with (first | (refine sA rfl 43 _ _ rfl w4.heap.size 0 (xC x4 u4).toArray rfl rfl (newthere4 w4 _) sizeIE2 o4 ?_; intro W hW; have HW4 := hid (newblk4 x4 u4 hW); clear hW; have M5 := hid (M4.out.later HW4.out.2); have E5 := hid (E4.out.later HW4.out.2); have rx := HW4.out.1) | (refine wpList_load_mid rfl 43 _ rfl n 0 rfl _ _ M5.out.rg Tryz.underlying43 rfl sizeIE2 ?_) | (refine wpList_load_mid rfl 43 _ rfl w4.heap.size 0 rfl _ _ rx Tryz.underlying43 rfl sizeIE2 ?_))
      have N5 := M5.out.lt
      have hn5 := M5.out.hn
      refine (l3Two_x 6 x x4 n (w.heap.size + 1) _ u u4 M5.out.ev E5.out (by omega) N5).mono ?_
      rintro e w6 ⟨z, rfl, e6, hb6⟩
      have o6 := oneX (twoX 6 x x4) z e6.ev.isOne
      have M6 := hid (M5.out.later hb6)
      have E6 := hid e6
      clear e6 hb6
      go_wp2_with (refine sA rfl 43 _ _ rfl n 0 (xC (twoX 6 x x4) z).toArray rfl rfl M6.out.th sizeIE2 o6 ?_; intro W7 hW7; have M7 := hid (M6.out.put (x' := twoX 6 x x4) E6.out hW7); clear hW7)
      try simp only [Act.put]
      go_roundw
      case rel => exact ⟨twoX 6 x x4, z, p4, b4, M7, R4, hid (by have := hL.out; have := L4.out; omega), B4⟩
      case measure => rw [atOf_rd M7.out.rd, A1.out]; have := L4.out; have := M7.out.rd.hp; have := M7.out.rd.hts; omega
def SumR (ts : List T) (sub : List T → Rest) (tot : Rest) (x : X) (p : Nat) (bad ag : Bool) : Prop :=
  (bad = true → tot = none) ∧ (bad = false → ag = false → tot = some (x, ts.drop p)) ∧ (bad = false → ag = true → ∃ m, (ts.drop p).length ≤ m ∧ sumLoop sub m x (ts.drop p) = tot)
theorem SumR.start {ts : List T} {d : Nat} {p p1 : Nat} {bad bad1 : Bool} {x : X} (hr : StE5 ts (resB bad (mulP (sumP d)) (ts.drop p)) x p1 bad1) (hle : p ≤ p1) : SumR ts (sumP d) (resB bad (sumP (d + 1)) (ts.drop p)) x p1 bad1 (!bad1) := by
  cases bad with
  | true => have h : bad1 = true := hr; subst h; exact ⟨fun _ => rfl, fun h => (by cases h), fun h => (by cases h)⟩
  | false =>
    show SumR ts (sumP d) (sumP (d + 1) (ts.drop p)) x p1 bad1 (!bad1)
    have hr : StE5 ts (mulP (sumP d) (ts.drop p)) x p1 bad1 := hr
    unfold sumP
    cases h : mulP (sumP d) (ts.drop p) with
    | none => rw [h] at hr; have hr : bad1 = true := hr; subst hr; exact ⟨fun _ => rfl, fun h => (by cases h), fun h => (by cases h)⟩
    | some y =>
      obtain ⟨e, l1⟩ := y
      rw [h] at hr
      obtain ⟨rfl, rfl, rfl⟩ := hr
      exact ⟨fun h => (by cases h), fun _ h => (by cases h), fun _ _ => ⟨_, drop_len ts p p1 hle, rfl⟩⟩
theorem SumR.over {ts : List T} {d : Nat} {p p1 : Nat} {x : X} (bad : Bool) : SumR ts (sumP d) (resB bad (sumP 0) (ts.drop p)) x p1 true false := ⟨fun _ => by cases bad <;> rfl, fun h => (by cases h), fun h => (by cases h)⟩
theorem eat_no {ts : List T} (hG : ∀ t ∈ ts, Good t) {c : UInt8} (hc : kind c = 3) {p : Nat} (hR : isR false 4 [c] (ts.drop p) = false) : eat [c] (ts.drop p) = none := by
  rw [mark_eat hc false _ (drop_good hG p)] at hR
  cases h : eat [c] (ts.drop p) with
  | none => rfl
  | some l => rw [h] at hR; cases hR
theorem eat_yes {ts : List T} {c : UInt8} {p : Nat} {bad : Bool} (hR : isR bad 4 [c] (ts.drop p) = true) : eat [c] (ts.drop p) = some (ts.drop (p + 1)) := by
  obtain ⟨_, t, ht, hs, _⟩ := isR_true hR
  rw [dropT ht]; simp [eat, hs]
theorem SumR.fin {ts : List T} {sub : List T → Rest} {tot : Rest} {p : Nat} {bad ag : Bool} {x : X} (h : SumR ts sub tot x p bad ag) (hn : bad = true ∨ ag = false) : StE5 ts tot x p bad := by
  cases bad with
  | true => rw [h.1 rfl]; rfl
  | false =>
    rcases hn with hn | hn
    · cases hn
    · rw [h.2.1 rfl hn]; exact ⟨rfl, rfl, rfl⟩
theorem SumR.stop {ts : List T} (hG : ∀ t ∈ ts, Good t) {sub : List T → Rest} {tot : Rest} {p : Nat} {x : X} (h : SumR ts sub tot x p false true) (hR : isR false 4 [43] (ts.drop p) = false) (hR2 : isR false 4 [45] (ts.drop p) = false) : SumR ts sub tot x p false false := by
  refine ⟨fun h => (by cases h), fun _ _ => ?_, fun _ h => (by cases h)⟩
  obtain ⟨m, _, e⟩ := h.2.2 rfl rfl
  rw [← e]
  cases m with
  | zero => rfl
  | succ m => unfold sumLoop; rw [eat_no hG (by decide) hR, eat_no hG (by decide) hR2]
theorem SumR.plus {ts : List T} (hG : ∀ t ∈ ts, Good t) {sub : List T → Rest} {tot : Rest} {p p2 : Nat} {bad2 : Bool} {x x2 : X} (h : SumR ts sub tot x p false true) (hR : isR false 4 [43] (ts.drop p) = true) (hr : StE5 ts (resB false (mulP sub) (ts.drop (p + 1))) x2 p2 bad2) (hle : p + 1 ≤ p2) : SumR ts sub tot (twoX 4 x x2) p2 bad2 true := by
  obtain ⟨m, hm, e⟩ := h.2.2 rfl rfl
  have he := eat_yes hR
  have hl := eat_len he
  cases m with
  | zero => omega
  | succ m =>
    unfold sumLoop at e
    rw [he] at e
    simp only at e
    have hr : StE5 ts (mulP sub (ts.drop (p + 1))) x2 p2 bad2 := hr
    cases ha : mulP sub (ts.drop (p + 1)) with
    | none => rw [ha] at hr e; have hr : bad2 = true := hr; subst hr; exact ⟨fun _ => e.symm, fun h => (by cases h), fun h => (by cases h)⟩
    | some y =>
      obtain ⟨y, l2⟩ := y
      rw [ha] at hr e
      obtain ⟨rfl, rfl, rfl⟩ := hr
      exact ⟨fun h => (by cases h), fun _ h => (by cases h), fun _ _ => ⟨m, by have := drop_len ts (p + 1) p2 hle; omega, e⟩⟩
theorem SumR.minus {ts : List T} (hG : ∀ t ∈ ts, Good t) {sub : List T → Rest} {tot : Rest} {p p2 : Nat} {bad2 : Bool} {x x2 : X} (h : SumR ts sub tot x p false true) (hR0 : isR false 4 [43] (ts.drop p) = false) (hR : isR false 4 [45] (ts.drop p) = true) (hr : StE5 ts (resB false (mulP sub) (ts.drop (p + 1))) x2 p2 bad2) (hle : p + 1 ≤ p2) : SumR ts sub tot (twoX 5 x x2) p2 bad2 true := by
  obtain ⟨m, hm, e⟩ := h.2.2 rfl rfl
  have he := eat_yes hR
  have hl := eat_len he
  cases m with
  | zero => omega
  | succ m =>
    unfold sumLoop at e
    rw [eat_no hG (by decide) hR0, he] at e
    simp only at e
    have hr : StE5 ts (mulP sub (ts.drop (p + 1))) x2 p2 bad2 := hr
    cases ha : mulP sub (ts.drop (p + 1)) with
    | none => rw [ha] at hr e; have hr : bad2 = true := hr; subst hr; exact ⟨fun _ => e.symm, fun h => (by cases h), fun h => (by cases h)⟩
    | some y =>
      obtain ⟨y, l2⟩ := y
      rw [ha] at hr e
      obtain ⟨rfl, rfl, rfl⟩ := hr
      exact ⟨fun h => (by cases h), fun _ h => (by cases h), fun _ _ => ⟨m, by have := drop_len ts (p + 1) p2 hle; omega, e⟩⟩
def agOf : Value → Nat
  | .bool true => 1
  | _ => 0
theorem l5Sum_at (b : Nat) (v : Value) (ts : List T) (hG : ∀ t ∈ ts, Good t) (d d0 : Nat) (deep : Int) (hd1 : -1 < deep) (hd2 : deep ≤ 30) (hcase : (deep = 30 ∧ d = 0) ∨ (deep < 30 ∧ d = d0 + 1)) (ih : deep < 30 → SumC b v ts d0) (hdd : deep < 30 → deep + 1 = 30 - (d0 : Int)) (p : Nat) (bad : Bool) (w : World) (st : Rd5 b v ts p deep bad w) :
    Calls Tryz.prog 135 #[.pointer (some ⟨b, 0, none⟩)] w (PostE b v ts deep (resB bad (sumP d) (ts.drop p)) p w) := by
  have hbN := st.lt
  have HIH := hid (And.intro ih hdd)
  have C1 := hid (st.setDeep (deep + 1))
  have D1 := hid (st.wset 2 (.int .i64 (deep + 1)))
  have hz1 : (w.setCell ⟨b, 2, Option.none⟩ (.int .i64 (deep + 1))).heap.size = w.heap.size := by rw [show (w.setCell ⟨b, 2, Option.none⟩ (.int .i64 (deep + 1))) = w.setCells b 2 [.int .i64 (deep + 1)] from rfl, size_sets]
  have hz2 : ((w.setCell ⟨b, 2, Option.none⟩ (.int .i64 (deep + 1))).setCell ⟨b, 3, Option.none⟩ (.bool true)).heap.size = w.heap.size := by rw [show ((w.setCell ⟨b, 2, Option.none⟩ (.int .i64 (deep + 1))).setCell ⟨b, 3, Option.none⟩ (.bool true)) = (w.setCell ⟨b, 2, Option.none⟩ (.int .i64 (deep + 1))).setCells b 3 [.bool true] from rfl, size_sets]; exact hz1
  have b1 := aB (w.setCell ⟨b, 2, Option.none⟩ (.int .i64 (deep + 1))) (.cells zero4 43)
  have b2 := aB ((w.setCell ⟨b, 2, Option.none⟩ (.int .i64 (deep + 1))).setCell ⟨b, 3, Option.none⟩ (.bool true)) (.cells zero4 43)
  have S1 : Hid (Rd5 b v ts p (deep + 1) bad ((w.setCell ⟨b, 2, Option.none⟩ (.int .i64 (deep + 1))).alloc (.cells zero4 43))) := hid (C1.out.later b1)
  have q2 := st.cells.2.2.1
  have q2f := st.free 2 (by omega)
  have q2' := S1.out.cells.2.2.1
  have T1 : Hid (((w.setCell ⟨b, 2, Option.none⟩ (.int .i64 (deep + 1))).alloc (.cells zero4 43)).there w.heap.size 0 4) := hid (by have h := newthere4 (w.setCell ⟨b, 2, Option.none⟩ (.int .i64 (deep + 1))) 43; rw [hz1] at h; exact h)
  have T1b : Hid ((((w.setCell ⟨b, 2, Option.none⟩ (.int .i64 (deep + 1))).setCell ⟨b, 3, Option.none⟩ (.bool true)).alloc (.cells zero4 43)).there w.heap.size 0 4) := hid (by have h := newthere4 ((w.setCell ⟨b, 2, Option.none⟩ (.int .i64 (deep + 1))).setCell ⟨b, 3, Option.none⟩ (.bool true)) 43; rw [hz2] at h; exact h)
  have W1 := hid (D1.out.trans (.of_below b1))
  have W1b := hid ((D1.out.trans (C1.out.wset 3 (.bool true))).trans (.of_below b2))
  have S1b : Hid (Rd5 b v ts p (deep + 1) true (((w.setCell ⟨b, 2, Option.none⟩ (.int .i64 (deep + 1))).setCell ⟨b, 3, Option.none⟩ (.bool true)).alloc (.cells zero4 43))) := hid ((C1.out.setBad true).later b2)
  have z1 : w.heap.size + 1 ≤ ((w.setCell ⟨b, 2, Option.none⟩ (.int .i64 (deep + 1))).alloc (.cells zero4 43)).heap.size := by rw [World.size_alloc, hz1]; exact Nat.le_refl _
  have z1b : w.heap.size + 1 ≤ (((w.setCell ⟨b, 2, Option.none⟩ (.int .i64 (deep + 1))).setCell ⟨b, 3, Option.none⟩ (.bool true)).alloc (.cells zero4 43)).heap.size := by rw [World.size_alloc, hz2]; exact Nat.le_refl _
  have hw : IntKind.i64.wrap (deep + 1) = deep + 1 := wrap_small _ (by omega) (by omega)
  have hwm : IntKind.i64.wrap (deep + 1 - 1) = deep := by rw [show deep + 1 - 1 = deep by omega]; exact wrap_small _ (by omega) (by omega)
  have hwn : IntKind.i64.wrap deep = deep := wrap_small _ (by omega) (by omega)
  clear st b1 b2 hz1 hz2 C1 D1 ih hdd
  -- where the product is read
  obtain ⟨W0, bad0, Hmid⟩ : ∃ (W0 : World) (bad0 : Bool), Hid ((W0 = ((w.setCell ⟨b, 2, Option.none⟩ (.int .i64 (deep + 1))).alloc (.cells zero4 43)) ∧ bad0 = bad ∧ deep < 30) ∨ (W0 = (((w.setCell ⟨b, 2, Option.none⟩ (.int .i64 (deep + 1))).setCell ⟨b, 3, Option.none⟩ (.bool true)).alloc (.cells zero4 43)) ∧ bad0 = true ∧ deep = 30)) := by
    rcases hcase with ⟨h, _⟩ | ⟨h, _⟩
    · exact ⟨_, true, hid (.inr ⟨rfl, rfl, h⟩)⟩
    · exact ⟨_, bad, hid (.inl ⟨rfl, rfl, h⟩)⟩
  have S2 : Hid (Rd5 b v ts p (deep + 1) bad0 W0) := hid (by
    rcases Hmid.out with ⟨h1, h2, _⟩ | ⟨h1, h2, _⟩
    · rw [h1, h2]; exact S1.out
    · rw [h1, h2]; exact S1b.out)
  have W2 : Hid (Wr b w W0) := hid (by
    rcases Hmid.out with ⟨h1, _, _⟩ | ⟨h1, _, _⟩
    · rw [h1]; exact W1.out
    · rw [h1]; exact W1b.out)
  have T2 : Hid (W0.there w.heap.size 0 4) := hid (by
    rcases Hmid.out with ⟨h1, _, _⟩ | ⟨h1, _, _⟩
    · rw [h1]; exact T1.out
    · rw [h1]; exact T1b.out)
  have z2 : w.heap.size + 1 ≤ W0.heap.size := by
    rcases Hmid.out with ⟨h1, _, _⟩ | ⟨h1, _, _⟩
    · rw [h1]; exact z1
    · rw [h1]; exact z1b
  have Hmul := hid (fun (q : Nat) (c : Bool) (h : c = false → deep < 30) => l5Mul_of b v ts hG d0 (deep + 1) q c (fun e => HIH.out.1 (h e) (deep + 1) (HIH.out.2 (h e))))
  have HB0 : Hid (bad0 = false → deep < 30) := hid (fun e => by
    rcases Hmid.out with ⟨_, _, h⟩ | ⟨_, h, _⟩
    · exact h
    · rw [h] at e; cases e)
  obtain ⟨tot, Htot⟩ : ∃ r, Hid (resB bad (sumP d) (ts.drop p) = r) := ⟨_, rfl⟩
  have HSt : Hid (∀ x p1 b1, StE5 ts (resB bad0 (mulP (sumP d0)) (ts.drop p)) x p1 b1 → p ≤ p1 → SumR ts (sumP d0) tot x p1 b1 (!b1)) := hid (fun x p1 b1 hr hle => by
    rw [← Htot.out]
    rcases Hmid.out with ⟨_, rfl, h⟩ | ⟨_, rfl, h⟩
    · have e : d = d0 + 1 := by
        rcases hcase with ⟨h', _⟩ | ⟨_, h'⟩
        · omega
        · exact h'
      rw [e]; exact SumR.start hr hle
    · have e : d = 0 := by
        rcases hcase with ⟨_, h'⟩ | ⟨h', _⟩
        · exact h'
        · omega
      have hr : b1 = true := hr
      subst hr
      rw [e]; exact SumR.over bad)
  have hgt : deep = 30 → (30 : Int) < deep + 1 := fun h => by omega
  have hle30 : deep < 30 → ¬ (30 : Int) < deep + 1 := fun h => by omega
  have q3' := S1.out.cells.2.2.2
  have q3f' := S1.out.free 3 (by omega)
  have HGO : Hid (W0 = ((w.setCell ⟨b, 2, Option.none⟩ (.int .i64 (deep + 1))).alloc (.cells zero4 43)) ∧ deep < 30 ∨ W0 = (((w.setCell ⟨b, 2, Option.none⟩ (.int .i64 (deep + 1))).setCell ⟨b, 3, Option.none⟩ (.bool true)).alloc (.cells zero4 43)) ∧ deep = 30) := hid (by
    rcases Hmid.out with ⟨h1, _, h3⟩ | ⟨h1, _, h3⟩
    · exact .inl ⟨h1, h3⟩
    · exact .inr ⟨h1, h3⟩)
  clear Hmid hcase
  by_cases h30 : deep < 30
  · have hW0 : ((w.setCell ⟨b, 2, Option.none⟩ (.int .i64 (deep + 1))).alloc (.cells zero4 43)) = W0 := by
      rcases HGO.out with ⟨h, _⟩ | ⟨_, h⟩
      · exact h.symm
      · omega
    have hn30 := hle30 h30
    have HW0 := hid hW0
    clear hW0 hgt hle30
    go_enter Tryz.func135, Tryz.ntmps135
    go_wp2_with fail
    rw [show ((w.setCell ⟨b, 2, Option.none⟩ (.int .i64 (deep + 1))).alloc (.cells zero4 43)) = W0 from HW0.out]
    clear HW0 q2 q2f q2' q3' q3f' hw
    refine (Hmul.out p bad0 HB0.out _ S2.out).mono ?_
    rintro e w2 ⟨x2, u2, p2, b2, rfl, g2⟩
    have o2 := oneX x2 u2 g2.ev.isOne
    have z3 := g2.wr.size
    have K2 := hid g2
    clear g2
    go_wp2_with (first | (refine sA rfl 43 _ _ rfl w2.heap.size 0 (xC x2 u2).toArray rfl rfl (newthere4 w2 _) sizeIE2 o2 ?_; intro W hW; have M2 := hid (MulS.new (w := w) (x := x2) (u := u2) hbN (by omega) (there_wr T2.out K2.out.wr (by omega)) (K2.out.ev.lower (by omega)) K2.out.rd (W2.out.trans K2.out.wr) hW); clear hW; have qb := M2.out.rd.cells.2.2.2))
    obtain ⟨n, hn⟩ : ∃ n, w2.heap.size = n := ⟨_, rfl⟩
    rw [hn] at M2 ⊢
    have R2 := hid (HSt.out x2 p2 b2 K2.out.rel K2.out.le)
    have L2 := hid K2.out.le
    have B2 : Hid (b2 = false → deep < 30) := hid (fun h => HB0.out (by cases bad0 with | false => rfl | true => have hr : b2 = true := K2.out.rel; rw [h] at hr; cases hr))
    clear K2 hn z3 o2 qb
    try simp only [Act.put]
    go_loopw [4] (fun g wr => ∃ (x : X) (u : Value) (p1 : Nat) (bad1 ag : Bool), g = .bool ag ∧ Hid (MulS b v ts (deep + 1) w n x u p1 bad1 wr) ∧ Hid (SumR ts (sumP d0) tot x p1 bad1 ag) ∧ Hid (p ≤ p1) ∧ Hid (bad1 = false → deep < 30)) (fun g wr => 2 * atOf b wr + agOf g)
    case atStart => exact ⟨x2, u2, p2, b2, !b2, rfl, M2, R2, L2, B2⟩
    case round =>
      obtain ⟨x, u, p1, bad1, ag, rfl, hM, hRl, hL, hB⟩ := hrel
      clear M2 R2 L2 B2
      cases ag with
      | false =>
        have HF := hid (hRl.out.fin (.inr rfl))
        have qd := hM.out.rd.cells.2.2.1
        have qdf := hM.out.rd.free 2 (by omega)
        have M8 : Hid (MulS b v ts deep w n x u p1 bad1 (wr.setCell ⟨b, 2, Option.none⟩ (.int .i64 deep))) := hid (hM.out.step (hM.out.rd.wset 2 (.int .i64 deep)) (hM.out.rd.setDeep deep))
        have th := M8.out.tN
        have oF := oneX x u M8.out.ev.ev.isOne
        go_wp2_with (first | (refine wpList_load_mid rfl 43 _ rfl n 0 rfl _ _ M8.out.rg Tryz.underlying43 rfl sizeIE2 ?_) | (refine sA rfl 43 _ _ rfl w.heap.size 0 (xC x u).toArray rfl rfl th sizeIE2 oF ?_; intro W hW))
        have HW := Got5.close (p := p) (res := tot) hbN th M8.out.ev.ev M8.out.rd M8.out.wr hL.out HF.out hW
        have hlv := run_loadVar_mid W w.heap.size 0 _ _ _ HW.2 Tryz.underlying43 rfl sizeIE2
        refine bodyPost_ret (v := .agg (xC x u).toArray) ?_ rfl ⟨x, u, _, _, rfl, by have h := HW.1; rw [← Htot.out] at h; exact h⟩
        simp [results, Tryz.results135, asAddr, hlv, Act.put]
        try rfl
      | true =>
        have qb := hM.out.rd.cells.2.2.2
        cases bad1 with
        | true =>
          have HF := hid (hRl.out.fin (.inl rfl))
          have qd := hM.out.rd.cells.2.2.1
          have qdf := hM.out.rd.free 2 (by omega)
          have M8 : Hid (MulS b v ts deep w n x u p1 true (wr.setCell ⟨b, 2, Option.none⟩ (.int .i64 deep))) := hid (hM.out.step (hM.out.rd.wset 2 (.int .i64 deep)) (hM.out.rd.setDeep deep))
          have th := M8.out.tN
          have oF := oneX x u M8.out.ev.ev.isOne
          go_wp2_with (first | (refine wpList_load_mid rfl 43 _ rfl n 0 rfl _ _ M8.out.rg Tryz.underlying43 rfl sizeIE2 ?_) | (refine sA rfl 43 _ _ rfl w.heap.size 0 (xC x u).toArray rfl rfl th sizeIE2 oF ?_; intro W hW))
          have HW := Got5.close (p := p) (res := tot) hbN th M8.out.ev.ev M8.out.rd M8.out.wr hL.out HF.out hW
          have hlv := run_loadVar_mid W w.heap.size 0 _ _ _ HW.2 Tryz.underlying43 rfl sizeIE2
          refine bodyPost_ret (v := .agg (xC x u).toArray) ?_ rfl ⟨x, u, _, _, rfl, by have h := HW.1; rw [← Htot.out] at h; exact h⟩
          simp [results, Tryz.results135, asAddr, hlv, Act.put]
          try rfl
        | false =>
          have hB3 := hid (show deep < 30 from hB.out rfl)
          have A1 := hid (atOf_rd hM.out.rd)
          obtain ⟨R, HR⟩ : ∃ R, Hid (isR false 4 [43] (ts.drop p1) = R) := ⟨_, rfl⟩
          go_wp2_with fail
          refine (l5Mark_is b v ts p1 (deep + 1) false [43] R HR.out _ hM.out.rd).mono ?_
          rintro e w3 ⟨rfl, s3, h3⟩
          have M3 := hid (hM.out.step h3 s3)
          clear s3 h3 qb
          cases R with
          | true =>
            have M3' : Hid (MulS b v ts (deep + 1) w n x u (p1 + 1) false w3) := M3
            clear M3
            go_wp2_with fail
            refine (Hmul.out (p1 + 1) false (fun _ => hB3.out) _ M3'.out.rd).mono ?_
            rintro e w5 ⟨x4, u4, p4, b4, rfl, g4⟩
            have o4 := oneX x4 u4 g4.ev.isOne
            have M4 := hid (M3'.out.step g4.wr g4.rd)
            have E4 := hid (EVx.fresh (g := n) (lo := w.heap.size + 1) g4.ev (by have := M3'.out.lt; have := M3'.out.hn; omega) M3'.out.lt)
            have R4 := hid (hRl.out.plus hG HR.out g4.rel g4.le)
            have L4 := hid g4.le
            have N4 := M4.out.lt
            clear g4
            go_wp2_with (first | (refine sA rfl 43 _ _ rfl w5.heap.size 0 (xC x4 u4).toArray rfl rfl (newthere4 w5 _) sizeIE2 o4 ?_; intro W hW; have HW4 := hid (newblk4 x4 u4 hW); clear hW; have M5 := hid (M4.out.later HW4.out.2); have E5 := hid (E4.out.later HW4.out.2); have rx := HW4.out.1) | (refine wpList_load_mid rfl 43 _ rfl n 0 rfl _ _ M5.out.rg Tryz.underlying43 rfl sizeIE2 ?_) | (refine wpList_load_mid rfl 43 _ rfl w5.heap.size 0 rfl _ _ rx Tryz.underlying43 rfl sizeIE2 ?_))
            have N5 := M5.out.lt
            have hn5 := M5.out.hn
            refine (l3Two_x 4 x x4 n (w.heap.size + 1) _ u u4 M5.out.ev E5.out (by omega) N5).mono ?_
            rintro e w6 ⟨z, rfl, e6, hb6⟩
            have o6 := oneX (twoX 4 x x4) z e6.ev.isOne
            have M6 := hid (M5.out.later hb6)
            have E6 := hid e6
            clear e6 hb6
            go_wp2_with (refine sA rfl 43 _ _ rfl n 0 (xC (twoX 4 x x4) z).toArray rfl rfl M6.out.th sizeIE2 o6 ?_; intro W7 hW7; have M7 := hid (M6.out.put (x' := twoX 4 x x4) E6.out hW7); clear hW7)
            try simp only [Act.put]
            go_roundw
            case rel => exact ⟨twoX 4 x x4, z, p4, b4, true, rfl, M7, R4, hid (by have := hL.out; have := L4.out; omega), hid (fun _ => hB3.out)⟩
            case measure => show 2 * atOf b W7 + 1 < 2 * atOf b wr + 1; rw [atOf_rd M7.out.rd, A1.out]; have := L4.out; have := M7.out.rd.hp; have := M7.out.rd.hts; omega
          | false =>
            have M3' : Hid (MulS b v ts (deep + 1) w n x u p1 false w3) := M3
            clear M3
            obtain ⟨R2, HR2⟩ : ∃ R, Hid (isR false 4 [45] (ts.drop p1) = R) := ⟨_, rfl⟩
            go_wp2_with fail
            refine (l5Mark_is b v ts p1 (deep + 1) false [45] R2 HR2.out _ M3'.out.rd).mono ?_
            rintro e w4 ⟨rfl, s4, h4⟩
            have M4m := hid (M3'.out.step h4 s4)
            clear s4 h4
            cases R2 with
            | true =>
              have M3m' : Hid (MulS b v ts (deep + 1) w n x u (p1 + 1) false w4) := M4m
              clear M4m
              go_wp2_with fail
              refine (Hmul.out (p1 + 1) false (fun _ => hB3.out) _ M3m'.out.rd).mono ?_
              rintro e w5 ⟨x4, u4, p4, b4, rfl, g4⟩
              have o4 := oneX x4 u4 g4.ev.isOne
              have M4 := hid (M3m'.out.step g4.wr g4.rd)
              have E4 := hid (EVx.fresh (g := n) (lo := w.heap.size + 1) g4.ev (by have := M3m'.out.lt; have := M3m'.out.hn; omega) M3m'.out.lt)
              have R4 := hid (hRl.out.minus hG HR.out HR2.out g4.rel g4.le)
              have L4 := hid g4.le
              have N4 := M4.out.lt
              clear g4
              go_wp2_with (first | (refine sA rfl 43 _ _ rfl w5.heap.size 0 (xC x4 u4).toArray rfl rfl (newthere4 w5 _) sizeIE2 o4 ?_; intro W hW; have HW4 := hid (newblk4 x4 u4 hW); clear hW; have M5 := hid (M4.out.later HW4.out.2); have E5 := hid (E4.out.later HW4.out.2); have rx := HW4.out.1) | (refine wpList_load_mid rfl 43 _ rfl n 0 rfl _ _ M5.out.rg Tryz.underlying43 rfl sizeIE2 ?_) | (refine wpList_load_mid rfl 43 _ rfl w5.heap.size 0 rfl _ _ rx Tryz.underlying43 rfl sizeIE2 ?_))
              have N5 := M5.out.lt
              have hn5 := M5.out.hn
              refine (l3Two_x 5 x x4 n (w.heap.size + 1) _ u u4 M5.out.ev E5.out (by omega) N5).mono ?_
              rintro e w6 ⟨z, rfl, e6, hb6⟩
              have o6 := oneX (twoX 5 x x4) z e6.ev.isOne
              have M6 := hid (M5.out.later hb6)
              have E6 := hid e6
              clear e6 hb6
              go_wp2_with (refine sA rfl 43 _ _ rfl n 0 (xC (twoX 5 x x4) z).toArray rfl rfl M6.out.th sizeIE2 o6 ?_; intro W7 hW7; have M7 := hid (M6.out.put (x' := twoX 5 x x4) E6.out hW7); clear hW7)
              try simp only [Act.put]
              go_roundw
              case rel => exact ⟨twoX 5 x x4, z, p4, b4, true, rfl, M7, R4, hid (by have := hL.out; have := L4.out; omega), hid (fun _ => hB3.out)⟩
              case measure => show 2 * atOf b W7 + 1 < 2 * atOf b wr + 1; rw [atOf_rd M7.out.rd, A1.out]; have := L4.out; have := M7.out.rd.hp; have := M7.out.rd.hts; omega
            | false =>
              have M9 : Hid (MulS b v ts (deep + 1) w n x u p1 false w4) := M4m
              go_wp2
              go_roundw
              case rel => exact ⟨x, u, p1, false, false, rfl, M9, hid (hRl.out.stop hG HR.out HR2.out), hL, hid (fun _ => hB3.out)⟩
              case measure => show 2 * atOf b w4 + 0 < 2 * atOf b wr + 1; rw [atOf_rd M9.out.rd, A1.out]; omega
  · have h31 : deep = 30 := by omega
    have hW0 : (((w.setCell ⟨b, 2, Option.none⟩ (.int .i64 (deep + 1))).setCell ⟨b, 3, Option.none⟩ (.bool true)).alloc (.cells zero4 43)) = W0 := by
      rcases HGO.out with ⟨_, h⟩ | ⟨h, _⟩
      · omega
      · exact h.symm
    have hn30 := hgt h31
    have HW0 := hid hW0
    clear hW0 hgt hle30 h31
    go_enter Tryz.func135, Tryz.ntmps135
    go_wp2_with fail
    rw [show (((w.setCell ⟨b, 2, Option.none⟩ (.int .i64 (deep + 1))).setCell ⟨b, 3, Option.none⟩ (.bool true)).alloc (.cells zero4 43)) = W0 from HW0.out]
    clear HW0 q2 q2f q2' q3' q3f' hw
    refine (Hmul.out p bad0 HB0.out _ S2.out).mono ?_
    rintro e w2 ⟨x2, u2, p2, b2, rfl, g2⟩
    have o2 := oneX x2 u2 g2.ev.isOne
    have z3 := g2.wr.size
    have K2 := hid g2
    clear g2
    go_wp2_with (first | (refine sA rfl 43 _ _ rfl w2.heap.size 0 (xC x2 u2).toArray rfl rfl (newthere4 w2 _) sizeIE2 o2 ?_; intro W hW; have M2 := hid (MulS.new (w := w) (x := x2) (u := u2) hbN (by omega) (there_wr T2.out K2.out.wr (by omega)) (K2.out.ev.lower (by omega)) K2.out.rd (W2.out.trans K2.out.wr) hW); clear hW; have qb := M2.out.rd.cells.2.2.2))
    obtain ⟨n, hn⟩ : ∃ n, w2.heap.size = n := ⟨_, rfl⟩
    rw [hn] at M2 ⊢
    have R2 := hid (HSt.out x2 p2 b2 K2.out.rel K2.out.le)
    have L2 := hid K2.out.le
    have B2 : Hid (b2 = false → deep < 30) := hid (fun h => HB0.out (by cases bad0 with | false => rfl | true => have hr : b2 = true := K2.out.rel; rw [h] at hr; cases hr))
    clear K2 hn z3 o2 qb
    try simp only [Act.put]
    go_loopw [4] (fun g wr => ∃ (x : X) (u : Value) (p1 : Nat) (bad1 ag : Bool), g = .bool ag ∧ Hid (MulS b v ts (deep + 1) w n x u p1 bad1 wr) ∧ Hid (SumR ts (sumP d0) tot x p1 bad1 ag) ∧ Hid (p ≤ p1) ∧ Hid (bad1 = false → deep < 30)) (fun g wr => 2 * atOf b wr + agOf g)
    case atStart => exact ⟨x2, u2, p2, b2, !b2, rfl, M2, R2, L2, B2⟩
    case round =>
      obtain ⟨x, u, p1, bad1, ag, rfl, hM, hRl, hL, hB⟩ := hrel
      clear M2 R2 L2 B2
      cases ag with
      | false =>
        have HF := hid (hRl.out.fin (.inr rfl))
        have qd := hM.out.rd.cells.2.2.1
        have qdf := hM.out.rd.free 2 (by omega)
        have M8 : Hid (MulS b v ts deep w n x u p1 bad1 (wr.setCell ⟨b, 2, Option.none⟩ (.int .i64 deep))) := hid (hM.out.step (hM.out.rd.wset 2 (.int .i64 deep)) (hM.out.rd.setDeep deep))
        have th := M8.out.tN
        have oF := oneX x u M8.out.ev.ev.isOne
        go_wp2_with (first | (refine wpList_load_mid rfl 43 _ rfl n 0 rfl _ _ M8.out.rg Tryz.underlying43 rfl sizeIE2 ?_) | (refine sA rfl 43 _ _ rfl w.heap.size 0 (xC x u).toArray rfl rfl th sizeIE2 oF ?_; intro W hW))
        have HW := Got5.close (p := p) (res := tot) hbN th M8.out.ev.ev M8.out.rd M8.out.wr hL.out HF.out hW
        have hlv := run_loadVar_mid W w.heap.size 0 _ _ _ HW.2 Tryz.underlying43 rfl sizeIE2
        refine bodyPost_ret (v := .agg (xC x u).toArray) ?_ rfl ⟨x, u, _, _, rfl, by have h := HW.1; rw [← Htot.out] at h; exact h⟩
        simp [results, Tryz.results135, asAddr, hlv, Act.put]
        try rfl
      | true =>
        have qb := hM.out.rd.cells.2.2.2
        cases bad1 with
        | true =>
          have HF := hid (hRl.out.fin (.inl rfl))
          have qd := hM.out.rd.cells.2.2.1
          have qdf := hM.out.rd.free 2 (by omega)
          have M8 : Hid (MulS b v ts deep w n x u p1 true (wr.setCell ⟨b, 2, Option.none⟩ (.int .i64 deep))) := hid (hM.out.step (hM.out.rd.wset 2 (.int .i64 deep)) (hM.out.rd.setDeep deep))
          have th := M8.out.tN
          have oF := oneX x u M8.out.ev.ev.isOne
          go_wp2_with (first | (refine wpList_load_mid rfl 43 _ rfl n 0 rfl _ _ M8.out.rg Tryz.underlying43 rfl sizeIE2 ?_) | (refine sA rfl 43 _ _ rfl w.heap.size 0 (xC x u).toArray rfl rfl th sizeIE2 oF ?_; intro W hW))
          have HW := Got5.close (p := p) (res := tot) hbN th M8.out.ev.ev M8.out.rd M8.out.wr hL.out HF.out hW
          have hlv := run_loadVar_mid W w.heap.size 0 _ _ _ HW.2 Tryz.underlying43 rfl sizeIE2
          refine bodyPost_ret (v := .agg (xC x u).toArray) ?_ rfl ⟨x, u, _, _, rfl, by have h := HW.1; rw [← Htot.out] at h; exact h⟩
          simp [results, Tryz.results135, asAddr, hlv, Act.put]
          try rfl
        | false =>
          have hB3 := hid (show deep < 30 from hB.out rfl)
          have A1 := hid (atOf_rd hM.out.rd)
          obtain ⟨R, HR⟩ : ∃ R, Hid (isR false 4 [43] (ts.drop p1) = R) := ⟨_, rfl⟩
          go_wp2_with fail
          refine (l5Mark_is b v ts p1 (deep + 1) false [43] R HR.out _ hM.out.rd).mono ?_
          rintro e w3 ⟨rfl, s3, h3⟩
          have M3 := hid (hM.out.step h3 s3)
          clear s3 h3 qb
          cases R with
          | true =>
            have M3' : Hid (MulS b v ts (deep + 1) w n x u (p1 + 1) false w3) := M3
            clear M3
            go_wp2_with fail
            refine (Hmul.out (p1 + 1) false (fun _ => hB3.out) _ M3'.out.rd).mono ?_
            rintro e w5 ⟨x4, u4, p4, b4, rfl, g4⟩
            have o4 := oneX x4 u4 g4.ev.isOne
            have M4 := hid (M3'.out.step g4.wr g4.rd)
            have E4 := hid (EVx.fresh (g := n) (lo := w.heap.size + 1) g4.ev (by have := M3'.out.lt; have := M3'.out.hn; omega) M3'.out.lt)
            have R4 := hid (hRl.out.plus hG HR.out g4.rel g4.le)
            have L4 := hid g4.le
            have N4 := M4.out.lt
            clear g4
            go_wp2_with (first | (refine sA rfl 43 _ _ rfl w5.heap.size 0 (xC x4 u4).toArray rfl rfl (newthere4 w5 _) sizeIE2 o4 ?_; intro W hW; have HW4 := hid (newblk4 x4 u4 hW); clear hW; have M5 := hid (M4.out.later HW4.out.2); have E5 := hid (E4.out.later HW4.out.2); have rx := HW4.out.1) | (refine wpList_load_mid rfl 43 _ rfl n 0 rfl _ _ M5.out.rg Tryz.underlying43 rfl sizeIE2 ?_) | (refine wpList_load_mid rfl 43 _ rfl w5.heap.size 0 rfl _ _ rx Tryz.underlying43 rfl sizeIE2 ?_))
            have N5 := M5.out.lt
            have hn5 := M5.out.hn
            refine (l3Two_x 4 x x4 n (w.heap.size + 1) _ u u4 M5.out.ev E5.out (by omega) N5).mono ?_
            rintro e w6 ⟨z, rfl, e6, hb6⟩
            have o6 := oneX (twoX 4 x x4) z e6.ev.isOne
            have M6 := hid (M5.out.later hb6)
            have E6 := hid e6
            clear e6 hb6
            go_wp2_with (refine sA rfl 43 _ _ rfl n 0 (xC (twoX 4 x x4) z).toArray rfl rfl M6.out.th sizeIE2 o6 ?_; intro W7 hW7; have M7 := hid (M6.out.put (x' := twoX 4 x x4) E6.out hW7); clear hW7)
            try simp only [Act.put]
            go_roundw
            case rel => exact ⟨twoX 4 x x4, z, p4, b4, true, rfl, M7, R4, hid (by have := hL.out; have := L4.out; omega), hid (fun _ => hB3.out)⟩
            case measure => show 2 * atOf b W7 + 1 < 2 * atOf b wr + 1; rw [atOf_rd M7.out.rd, A1.out]; have := L4.out; have := M7.out.rd.hp; have := M7.out.rd.hts; omega
          | false =>
            have M3' : Hid (MulS b v ts (deep + 1) w n x u p1 false w3) := M3
            clear M3
            obtain ⟨R2, HR2⟩ : ∃ R, Hid (isR false 4 [45] (ts.drop p1) = R) := ⟨_, rfl⟩
            go_wp2_with fail
            refine (l5Mark_is b v ts p1 (deep + 1) false [45] R2 HR2.out _ M3'.out.rd).mono ?_
            rintro e w4 ⟨rfl, s4, h4⟩
            have M4m := hid (M3'.out.step h4 s4)
            clear s4 h4
            cases R2 with
            | true =>
              have M3m' : Hid (MulS b v ts (deep + 1) w n x u (p1 + 1) false w4) := M4m
              clear M4m
              go_wp2_with fail
              refine (Hmul.out (p1 + 1) false (fun _ => hB3.out) _ M3m'.out.rd).mono ?_
              rintro e w5 ⟨x4, u4, p4, b4, rfl, g4⟩
              have o4 := oneX x4 u4 g4.ev.isOne
              have M4 := hid (M3m'.out.step g4.wr g4.rd)
              have E4 := hid (EVx.fresh (g := n) (lo := w.heap.size + 1) g4.ev (by have := M3m'.out.lt; have := M3m'.out.hn; omega) M3m'.out.lt)
              have R4 := hid (hRl.out.minus hG HR.out HR2.out g4.rel g4.le)
              have L4 := hid g4.le
              have N4 := M4.out.lt
              clear g4
              go_wp2_with (first | (refine sA rfl 43 _ _ rfl w5.heap.size 0 (xC x4 u4).toArray rfl rfl (newthere4 w5 _) sizeIE2 o4 ?_; intro W hW; have HW4 := hid (newblk4 x4 u4 hW); clear hW; have M5 := hid (M4.out.later HW4.out.2); have E5 := hid (E4.out.later HW4.out.2); have rx := HW4.out.1) | (refine wpList_load_mid rfl 43 _ rfl n 0 rfl _ _ M5.out.rg Tryz.underlying43 rfl sizeIE2 ?_) | (refine wpList_load_mid rfl 43 _ rfl w5.heap.size 0 rfl _ _ rx Tryz.underlying43 rfl sizeIE2 ?_))
              have N5 := M5.out.lt
              have hn5 := M5.out.hn
              refine (l3Two_x 5 x x4 n (w.heap.size + 1) _ u u4 M5.out.ev E5.out (by omega) N5).mono ?_
              rintro e w6 ⟨z, rfl, e6, hb6⟩
              have o6 := oneX (twoX 5 x x4) z e6.ev.isOne
              have M6 := hid (M5.out.later hb6)
              have E6 := hid e6
              clear e6 hb6
              go_wp2_with (refine sA rfl 43 _ _ rfl n 0 (xC (twoX 5 x x4) z).toArray rfl rfl M6.out.th sizeIE2 o6 ?_; intro W7 hW7; have M7 := hid (M6.out.put (x' := twoX 5 x x4) E6.out hW7); clear hW7)
              try simp only [Act.put]
              go_roundw
              case rel => exact ⟨twoX 5 x x4, z, p4, b4, true, rfl, M7, R4, hid (by have := hL.out; have := L4.out; omega), hid (fun _ => hB3.out)⟩
              case measure => show 2 * atOf b W7 + 1 < 2 * atOf b wr + 1; rw [atOf_rd M7.out.rd, A1.out]; have := L4.out; have := M7.out.rd.hp; have := M7.out.rd.hts; omega
            | false =>
              have M9 : Hid (MulS b v ts (deep + 1) w n x u p1 false w4) := M4m
              go_wp2
              go_roundw
              case rel => exact ⟨x, u, p1, false, false, rfl, M9, hid (hRl.out.stop hG HR.out HR2.out), hL, hid (fun _ => hB3.out)⟩
              case measure => show 2 * atOf b w4 + 0 < 2 * atOf b wr + 1; rw [atOf_rd M9.out.rd, A1.out]; omega
theorem l5Sum_all (b : Nat) (v : Value) (ts : List T) (hG : ∀ t ∈ ts, Good t) : ∀ d, d ≤ 30 → SumC b v ts d
  | 0, _ => fun deep hd p bad w st => l5Sum_at b v ts hG 0 0 deep (by omega) (by omega) (.inl ⟨by omega, rfl⟩) (fun h => by omega) (fun h => by omega) p bad w st
  | d + 1, h => fun deep hd p bad w st => l5Sum_at b v ts hG (d + 1) d deep (by omega) (by omega) (.inr ⟨by omega, rfl⟩) (fun _ => l5Sum_all b v ts hG d (by omega)) (fun _ => by omega) p bad w st
end Go.Proofs.YtpinockfakndlaaGreat
namespace Go.Proofs.YtpinockfakndlaaGreat
open Go.Lib Go.RowKit
set_option linter.unusedSimpArgs false
set_option linter.unusedVariables false
def Sp (l : List UInt8) (R : Option (List T)) (out : List T) (at' : Nat) : Prop := at' ≤ l.length ∧ out.length ≤ 600 ∧ R = cut out (pend 0 [] (l.drop at' ++ [32]))
structure Nx (l : List UInt8) (at' nx k : Nat) : Prop where
  lt : at' < nx
  le : nx ≤ l.length
  all : ∀ j (h : j < l.length), at' ≤ j → j < nx → kind l[j] = k
  last : goes k = true → ∀ h : nx < l.length, kind l[nx] ≠ k
  one : goes k = false → nx = at' + 1
theorem Sp.start (l : List UInt8) : Sp l (cut [] (pend 0 [] (l ++ [32]))) [] 0 := ⟨Nat.zero_le _, by simp, by simp⟩
theorem Sp.gap {l : List UInt8} {R : Option (List T)} {out : List T} {p : Nat} (h : Sp l R out p) (hp : p < l.length) (hk : kind l[p] = 0) : Sp l R out (p + 1) := by
  refine ⟨hp, h.2.1, ?_⟩
  rw [h.2.2, drop_at hp, List.cons_append, pend_start, hk, pend_gap]
theorem Sp.done {l : List UInt8} {R : Option (List T)} {out : List T} {p : Nat} (h : Sp l R out p) (hp : ¬ p < l.length) : R = some out := by
  rw [h.2.2, List.drop_eq_nil_iff.2 (by omega), List.nil_append, pend_start, kind32]
  exact cut_nil h.2.1
theorem piece_mem {l : List UInt8} {f pos : Nat} {b : UInt8} (h : b ∈ piece l f pos) : ∃ j, ∃ hj : j < l.length, f ≤ j ∧ j < pos ∧ l[j] = b := by
  unfold piece at h
  obtain ⟨i, hi, e⟩ := List.getElem_of_mem h
  rw [List.length_drop, List.length_take] at hi
  refine ⟨f + i, by omega, by omega, by omega, ?_⟩
  rw [← e, List.getElem_drop, List.getElem_take]
theorem drop_piece {l : List UInt8} {f pos : Nat} (h : f ≤ pos) (h2 : pos ≤ l.length) : l.drop f = piece l f pos ++ l.drop pos := by
  have e : l = l.take pos ++ l.drop pos := (List.take_append_drop pos l).symm
  conv => lhs; rw [e]
  rw [List.drop_append_of_le_length (by rw [List.length_take]; omega)]
  rfl
theorem piece_ne {l : List UInt8} {f pos : Nat} (h : f < pos) (h2 : pos ≤ l.length) : piece l f pos ≠ [] := by
  intro e
  have : (piece l f pos).length = 0 := by rw [e]; rfl
  unfold piece at this
  rw [List.length_drop, List.length_take] at this
  omega
theorem Sp.next {l : List UInt8} {R : Option (List T)} {out : List T} {p nx k : Nat} (h : Sp l R out p) (hk0 : k ≠ 0) (hN : Nx l p nx k) :
    R = cut out (match tok k (piece l p nx) with | some t => put t (pend 0 [] (l.drop nx ++ [32])) | none => none) := by
  obtain ⟨c, r, hc, hck⟩ : ∃ c r, l.drop nx ++ [32] = c :: r ∧ ¬ (kind c = k ∧ goes k = true) := by
    rcases Nat.lt_or_ge nx l.length with h1 | h1
    · exact ⟨l[nx], l.drop (nx + 1) ++ [32], by rw [drop_at h1]; rfl, fun e => hN.last e.2 h1 e.1⟩
    · exact ⟨32, [], by rw [List.drop_eq_nil_iff.2 h1]; rfl, fun e => hk0 (by rw [← e.1, kind32])⟩
  have hpend : ∀ q, pend k q (l.drop nx ++ [32]) = match tok k q with | some t => put t (pend 0 [] (l.drop nx ++ [32])) | none => none := by
    intro q
    rw [hc, pend_end q r hk0 hck]
    cases YtpinockfakndlaaGreat.tok k q <;> rfl
  have hall : ∀ b ∈ piece l p nx, kind b = k := fun b hb => by
    obtain ⟨j, hj, h1, h2, e⟩ := piece_mem hb
    rw [← e]; exact hN.all j hj h1 h2
  rw [h.2.2, drop_piece (Nat.le_of_lt hN.lt) hN.le, List.append_assoc]
  cases hP : piece l p nx with
  | nil => exact absurd hP (piece_ne hN.lt hN.le)
  | cons b v =>
    rw [hP] at hall
    rw [List.cons_append, pend_start, hall b (by simp)]
    cases hg : goes k with
    | true => rw [pend_run hg v [b] _ (fun x hx => hall x (by simp [hx])), hpend]; rfl
    | false =>
      have := hN.one hg
      subst this
      have hlt : p < l.length := hN.le
      rw [piece_one hlt] at hP
      injection hP with h1 h2
      subst h2
      rw [List.nil_append, hpend]
theorem Sp.bad {l : List UInt8} {R : Option (List T)} {out : List T} {p nx k : Nat} (h : Sp l R out p) (hk0 : k ≠ 0) (hN : Nx l p nx k) (ht : tok k (piece l p nx) = none) : R = none := by
  rw [h.next hk0 hN, ht]; rfl
theorem Sp.full {l : List UInt8} {R : Option (List T)} {out : List T} {p nx k : Nat} {t : T} (h : Sp l R out p) (hk0 : k ≠ 0) (hN : Nx l p nx k) (ht : tok k (piece l p nx) = some t) (hd : ¬ out.length < 600) : R = none := by
  rw [h.next hk0 hN, ht]; exact cut_full (by have := h.2.1; omega) _
theorem Sp.tok {l : List UInt8} {R : Option (List T)} {out : List T} {p nx k : Nat} {t : T} (h : Sp l R out p) (hk0 : k ≠ 0) (hN : Nx l p nx k) (ht : YtpinockfakndlaaGreat.tok k (piece l p nx) = some t) (hd : out.length < 600) : Sp l R (out ++ [t]) nx := by
  refine ⟨hN.le, by simp; omega, ?_⟩
  rw [h.next hk0 hN, ht]; exact cut_put _
theorem tok_kind {k : Nat} {p : List UInt8} {t : T} (h : YtpinockfakndlaaGreat.tok k p = some t) : t.k = 1 ∨ t.k = 2 ∨ t.k = 3 ∨ t.k = 4 := by
  unfold YtpinockfakndlaaGreat.tok at h
  split at h
  · split at h
    · injection h with h; subst h; simp
    · split at h
      · injection h with h; subst h; simp
      · cases h
  · split at h
    · split at h
      · split at h
        · injection h with h; subst h; simp
        · cases h
      · cases h
    · split at h
      · injection h with h; subst h; simp
      · cases h
end Go.Proofs.YtpinockfakndlaaGreat
