/-
  Texts in one: ProgLoop, ProgStmt, ProgBody, ProgEq.
-/
import Derived.Test.YtfoghiminlbdaaaGreatZp
import Derived.Test.YtfoghiminlbdaaaGreatP20ofRun
import Derived.Test.YtfoghiminlbdaaaGreatP14ofRun
import Derived.Test.YtfoghiminlbdaaaGreatProgSpec
namespace Go.Proofs.YtfoghiminlbdaaaGreat
open Go.RowKit Go.Lib Go.Maps Go.Sort Go.WideMaps
set_option linter.unusedSimpArgs false
set_option linter.unusedVariables false
def asInt (R : ByteArray → Bool) : ByteArray → Int := fun s => if R s = true then 1 else 0
def withS (R : ByteArray → Bool) (s : ByteArray) : ByteArray → Bool := fun t => R t || decide (t = s)
def nice (F : SF) : Prop := ∀ a ∈ sall F, a.1.s.size ≤ 10000000 ∧ (hall a.1).length ≤ 10000000 ∧ ∀ e ∈ hall a.1, e.1.s.size ≤ 10000000
def FitsTo (w : World) (tb n : Nat) (arrs : List ByteArray) (qs : List SN) (R : ByteArray → Bool) (P : Prop) (e : Ending) (w' : World) : Prop :=
  ∃ b : Bool, e = .returned (.bool b) ∧ (b = true ↔ P) ∧ Gap tb (tb + 2) w w' ∧ Rd w' (tb + 1) n (asInt R) ∧ (b = true → ∃ T', Rd w' tb n T' ∧ TT arrs qs T')
def BodyC (F : SF) : Prop := ∀ (w0 w : World) (v : Value) (tb n : Nat) (arrs : List ByteArray) (ps : List SN) (T : ByteArray → Int) (R : ByteArray → Bool), SV w0 0 F v → w0.heap.size ≤ tb → Below w0.heap.size w0 w → Rd w tb n T → Rd w (tb + 1) n (asInt R) →
  n + 2 * snodes F ≤ 1000000 → nice F → bodies F → TT arrs ps T → AllFit arrs ps → Calls Tryz.prog 75 #[nam tb (tb + 1), v] w (FitsTo w tb (n + 2 * snodes F) arrs (ps ++ sall F) R (AllFit arrs (ps ++ sall F) ∧ nestP F R))
theorem gap_one {w w' : World} {b lo hi : Nat} (hg : w.grownBy w' (some b)) (h1 : lo ≤ b) (h2 : b < hi) : Gap lo hi w w' :=
  ⟨hg.os, hg.tape, hg.output, hg.size, fun k hk hc => hg.block k hk (fun e => by injection e with e; omega)⟩
theorem range_gap {w w' : World} {lo hi b : Nat} {cs : List Value} (h : w.rangeAt b 0 cs) (hg : Gap lo hi w w') (hb : hi ≤ b) : w'.rangeAt b 0 cs := fun j u hj => by
  have h1 := h j u hj
  have := hg.block b (lt_of_cellA h1) (.inr hb)
  unfold World.cell? at h1 ⊢; simp only [this]; exact h1
theorem rng18 {w : World} {b : Nat} {h : SH} {v1 v2 v3 v4 v : Value} (r : w.rangeAt b 0 (scells h v1 v2 v3 v4 v)) : w.cell? ⟨b, 18, Option.none⟩ = some v := r 18 _ rfl
theorem rngS {w : World} {b : Nat} {h : SH} {v1 v2 v3 v4 v : Value} (r : w.rangeAt b 0 (scells h v1 v2 v3 v4 v)) : w.cell? ⟨b, 1, Option.none⟩ = some (.string h.s) := r 1 _ rfl
theorem rngK {w : World} {b : Nat} {h : SH} {v1 v2 v3 v4 v : Value} (r : w.rangeAt b 0 (scells h v1 v2 v3 v4 v)) : w.cell? ⟨b, 0, Option.none⟩ = some (.int .i64 h.k) := r 0 _ rfl
set_option maxHeartbeats 2000000 in
set_option maxRecDepth 100000 in
theorem loopFits_in (h : SH) (v1 v2 v3 v4 v : Value) (hs : h.s.size ≤ 10000000) (w : World) (tb n : Nat) (R : ByteArray → Bool) (hA : Rd w (tb + 1) n (asInt R)) (hin : R h.s = true) :
    Calls Tryz.prog 176 #[nam tb (tb + 1), sagg h v1 v2 v3 v4 v] w fun e w' => e = .returned (.bool false) ∧ Below w.heap.size w w' := by
  obtain ⟨D, hown, hat0⟩ := hA
  have HO := hid ((hown.alloc (.cells #[.map (some tb), .map (some (tb + 1))] 115)).alloc (.cells (sarr h v1 v2 v3 v4 v) 119))
  have B := hid ((alloc_below w (.cells #[.map (some tb), .map (some (tb + 1))] 115)).alloc (by simp) (.cells (sarr h v1 v2 v3 v4 v) 119))
  have HA := hid ((hat0 h.s).trans (show _ = DataW.lit (.int .i64 1) by unfold asInt; rw [if_pos hin]))
  have hkey := keyS hs
  clear hown hat0 hin
  go_enter Tryz.func176, Tryz.ntmps176
  go_wp2_with (at_lookup; refine wpList_lookup_own_int _ rfl _ _ 113 rfl 9 3 .i64 keyLaw Tryz.underlying113 Tryz.underlying3 (zeroInt _) (tb + 1) n D rfl HO.out _ _ rfl hkey ?_; intro c hat hwc; obtain rfl := lit_int HA.out hat)
  go_ret
  exact ⟨rfl, B.out⟩
set_option maxHeartbeats 4000000 in
set_option maxRecDepth 100000 in
theorem loopFits_out (h : SH) (l : SF) (ih : BodyC l) (v1 v2 v3 v4 v : Value) (hs : h.s.size ≤ 10000000) (w0 w : World) (tb n : Nat) (arrs : List ByteArray) (ps : List SN) (T : ByteArray → Int) (R : ByteArray → Bool) (hv : SV w0 0 l v) (h0 : w0.heap.size ≤ tb) (hb0 : Below w0.heap.size w0 w)
    (hT : Rd w tb n T) (hA : Rd w (tb + 1) n (asInt R)) (hn : n + 1 + 2 * snodes l ≤ 1000000) (hni : nice l) (hbo : bodies l) (hTT : TT arrs ps T) (hAF : AllFit arrs ps) (hin : R h.s = false) :
    Calls Tryz.prog 176 #[nam tb (tb + 1), sagg h v1 v2 v3 v4 v] w (FitsTo w tb (n + 1 + 2 * snodes l) arrs (ps ++ sall l) R (AllFit arrs (ps ++ sall l) ∧ nestP l (withS R h.s))) := by
  have hltA := hA.lt
  have hltT := hT.lt
  have HT := hid hT
  obtain ⟨D, hown, hat0⟩ := hA
  obtain ⟨r0, r1, rb⟩ := two_blk w #[.map (some tb), .map (some (tb + 1))] (sarr h v1 v2 v3 v4 v) 115 119
  have HO := hid ((hown.alloc (.cells #[.map (some tb), .map (some (tb + 1))] 115)).alloc (.cells (sarr h v1 v2 v3 v4 v) 119))
  have RR := hid (And.intro r0 (And.intro r1 rb))
  have HA := hid ((hat0 h.s).trans (show _ = DataW.lit (.int .i64 0) by unfold asInt; rw [hin]; rfl))
  have HA0 := hid hat0
  have hD := hid (hown.tidy keyLaw).isMap
  have hkey := keyS hs
  have hnI : (n : Int) + 1 ≤ 1000000 := by omega
  have HV := hid hv
  have HM := hid (And.intro hni (And.intro hbo (And.intro hTT hAF)))
  have HB0 := hid hb0
  have Hin := hid hin
  have Hih := hid ih
  obtain ⟨va, vc, rfl⟩ := hv.shape
  clear hown hat0 r0 r1 rb hT hni hbo hTT hAF hv hb0 hin ih
  go_enter Tryz.func176, Tryz.ntmps176
  go_wp2_with (first
    | (at_lookup; refine wpList_lookup_own_int _ rfl _ _ 113 rfl 9 3 .i64 keyLaw Tryz.underlying113 Tryz.underlying3 (zeroInt _) (tb + 1) n D rfl HO.out _ _ rfl hkey ?_; intro c hat hwc; obtain rfl := lit_int HA.out hat; clear hat hwc)
    | (at_mapUpdate; refine wpList_mapUpdate_own _ rfl _ _ _ 113 rfl 9 3 keyLaw Tryz.underlying113 _ (tb + 1) n _ rfl HO.out (by unfold maxLen; omega) _ _ _ rfl rfl hkey _ [] (plainElem_int (a := 1) Tryz.underlying3 (by decide)) ?_)
    | go_in)
  intro w1 ho1 hg1
  have G1 := hid (gap_one hg1 (Nat.le_succ tb) (by omega : tb + 1 < tb + 2))
  have r0 := range_gap RR.out.1 G1.out (by omega)
  have r1 := range_gap RR.out.2.1 G1.out (by omega)
  have GW := hid ((Gap.of tb (tb + 2) RR.out.2.2).trans G1.out)
  have hRT1 : Rd w1 tb n T := (HT.out.below RR.out.2.2).block (hg1.block _ (Nat.lt_of_lt_of_le hltT RR.out.2.2.size) (fun e => by injection e with e; omega))
  have hRA1 : Rd w1 (tb + 1) (n + 1) (asInt (withS R h.s)) := Rd.as ⟨_, ho1, rd_put hD.out HA0.out h.s 1⟩ (fun t => by
    unfold asInt withS
    by_cases e : t = h.s
    · rw [if_pos e]; simp [e]
    · rw [if_neg e]; simp [e])
  have RT1 := hid (And.intro (hRT1.more (Nat.le_succ _)) hRA1)
  have R1 := hid (And.intro r0 r1)
  have q0 := r0 0 _ rfl
  have q1 := r0 1 _ rfl
  have q18 := rng18 r1
  clear ho1 hg1 hRT1 hRA1 r0 r1
  go_wp2_with fail
  refine (Hih.out w0 w1 _ tb (n + 1) arrs ps T (withS R h.s) HV.out h0 (HB0.out.trans (GW.out.below h0 HB0.out.size)) RT1.out.1 RT1.out.2 (by omega) HM.out.1 HM.out.2.1 HM.out.2.2.1 HM.out.2.2.2).mono ?_
  rintro e w2 ⟨b, rfl, hb, hg2, hA2, hT2⟩
  obtain ⟨D2, hown2, hat2⟩ := hA2
  have HO2 := hid hown2
  have HA2 := hid hat2
  have r0 := range_gap R1.out.1 hg2 (by omega)
  have r1 := range_gap R1.out.2 hg2 (by omega)
  have p1 := r0 1 _ rfl
  have pS := rngS r1
  have G2 := hid (GW.out.trans hg2)
  have HT2 := hid (And.intro hb hT2)
  clear hown2 hat2 hb hT2 hg2 r0 r1 q0 q1 q18 RT1 R1
  go_wp2_with (first
    | (at_delete; refine wpList_delete_own _ rfl _ _ 113 9 rfl 3 keyLaw Tryz.underlying113 _ (tb + 1) _ D2 rfl HO2.out _ _ rfl hkey ?_)
    | go_in)
  intro w3 ho3 ht3
  have G3 := hid (gap_one (lo := tb) (hi := tb + 2) ht3.grown (Nat.le_succ tb) (by omega))
  have hblk := hid (fun (k : Nat) (hk : k < w2.heap.size) (hne : k ≠ tb + 1) => ht3.grown.block k hk (fun e => by injection e with e; exact hne e))
  have RA3 : Hid (Rd w3 (tb + 1) (n + 1 + 2 * snodes l) (asInt R)) := hid (Rd.as ⟨_, ho3, rd_del HA2.out h.s⟩ (fun t => by
    unfold asInt withS
    by_cases e : t = h.s
    · rw [if_pos e, e, Hin.out]; rfl
    · rw [if_neg e]; simp [e]))
  clear ho3 ht3 p1 pS
  go_wp2
  go_ret
  refine ⟨b, rfl, HT2.out.1, G2.out.trans G3.out, RA3.out, fun hbt => ?_⟩
  obtain ⟨T', t1, t2⟩ := HT2.out.2 hbt
  exact ⟨T', t1.block (hblk.out _ t1.lt (by omega)), t2⟩
theorem kne {h : SH} {a b : Int} (hk : h.k = a) (hab : ¬ a = b) : ¬ h.k = b := fun e => hab (hk.symm.trans e)
theorem snoc_cons {α : Type} (ps : List α) (a : α) (l : List α) : (ps ++ [a]) ++ l = ps ++ a :: l := by simp
def stmtP (arrs : List ByteArray) (ps : List SN) (R : ByteArray → Bool) (h : SH) (l : SF) : Prop := AllFit arrs (ps ++ (h, l) :: sall l) ∧ (h.k = 3 → R h.s = false ∧ nestP l (withS R h.s))
theorem stmtP_nil {arrs : List ByteArray} {ps : List SN} {R : ByteArray → Bool} {h : SH} {T : ByteArray → Int} (hTT : TT arrs ps T) (hAF : AllFit arrs ps) (hex : expFits arrs h) (h3 : ¬ h.k = 3) :
    stmtP arrs ps R h .nil ↔ ((h.k = 1 → T h.s = 0 ∨ T h.s = 2) ∧ (h.k = 2 → T h.s = 1)) := by
  unfold stmtP
  show AllFit arrs (ps ++ [(h, .nil)]) ∧ _ ↔ _
  rw [← step_iff hTT hAF h .nil]
  constructor
  · rintro ⟨⟨_, a, b, _⟩, _⟩; exact ⟨a, b⟩
  · rintro ⟨a, b⟩; exact ⟨⟨hex, a, b, fun e => absurd e h3⟩, fun e => absurd e h3⟩
theorem stmtP_loop {arrs : List ByteArray} {ps : List SN} {R : ByteArray → Bool} {h : SH} {l : SF} {T : ByteArray → Int} (hTT : TT arrs ps T) (hAF : AllFit arrs ps) (hex : expFits arrs h) (h3 : h.k = 3) :
    stmtP arrs ps R h l → (T h.s = 0 ∨ T h.s = 3) ∧ R h.s = false := by
  rintro ⟨a, b⟩
  have a' : AllFit arrs (ps ++ [(h, l)]) := by rw [← snoc_cons] at a; exact a.left
  exact ⟨((step_iff hTT hAF h l).2 a').2.2.2 h3, (b h3).1⟩
theorem stepFits_loop {arrs : List ByteArray} {h : SH} {T : ByteArray → Int} (hex : expFits arrs h) (h3 : h.k = 3) (ht : T h.s = 0 ∨ T h.s = 3) : stepFits arrs T h := ⟨hex, fun e => by omega, fun e => by omega, fun _ => ht⟩
set_option maxHeartbeats 4000000 in
set_option maxRecDepth 100000 in
theorem stmtFits_1 (ss : ByteArray) (x1 x2 x3 x4 : X) (l : SF) (ih : BodyC l) (v1 v2 v3 v4 v : Value) (hs : ss.size ≤ 10000000) (w0 w : World) (tb n : Nat) (arrs : List ByteArray) (ps : List SN) (T : ByteArray → Int) (R : ByteArray → Bool) (hv : SV w0 0 l v) (h0 : w0.heap.size ≤ tb) (hb0 : Below w0.heap.size w0 w)
    (hT : Rd w tb n T) (hA : Rd w (tb + 1) n (asInt R)) (hn : n + 2 + 2 * snodes l ≤ 1000000) (hni : nice l) (hbo : bodies l) (hbk : (⟨1, ss, x1, x2, x3, x4⟩ : SH).k ≠ 3 → l = .nil) (hTT : TT arrs ps T) (hAF : AllFit arrs ps) (hex : expFits arrs (⟨1, ss, x1, x2, x3, x4⟩ : SH)) :
    Calls Tryz.prog 132 #[nam tb (tb + 1), sagg (⟨1, ss, x1, x2, x3, x4⟩ : SH) v1 v2 v3 v4 v] w (FitsTo w tb (n + 2 + 2 * snodes l) arrs (ps ++ ((⟨1, ss, x1, x2, x3, x4⟩ : SH), l) :: sall l) R (stmtP arrs ps R (⟨1, ss, x1, x2, x3, x4⟩ : SH) l)) := by
  have h1 : (⟨1, ss, x1, x2, x3, x4⟩ : SH).k = 1 := rfl
  obtain ⟨r0, r1, rb⟩ := two_blk w #[.map (some tb), .map (some (tb + 1))] (sarr (⟨1, ss, x1, x2, x3, x4⟩ : SH) v1 v2 v3 v4 v) 115 119
  have hltT := hT.lt
  have hltA := hA.lt
  have HR := hid (And.intro (hT.below rb) (hA.below rb))
  have RR := hid (And.intro r0 (And.intro r1 rb))
  have q0 : ((w.alloc (.cells #[.map (some tb), .map (some (tb + 1))] 115)).alloc (.cells (sarr (⟨1, ss, x1, x2, x3, x4⟩ : SH) v1 v2 v3 v4 v) 119)).cell? ⟨w.heap.size, 0, Option.none⟩ = some (.map (some tb)) := r0 0 _ rfl
  have q1 : ((w.alloc (.cells #[.map (some tb), .map (some (tb + 1))] 115)).alloc (.cells (sarr (⟨1, ss, x1, x2, x3, x4⟩ : SH) v1 v2 v3 v4 v) 119)).cell? ⟨w.heap.size, 1, Option.none⟩ = some (.map (some (tb + 1))) := r0 1 _ rfl
  have qK : ((w.alloc (.cells #[.map (some tb), .map (some (tb + 1))] 115)).alloc (.cells (sarr (⟨1, ss, x1, x2, x3, x4⟩ : SH) v1 v2 v3 v4 v) 119)).cell? ⟨w.heap.size + 1, 0, Option.none⟩ = some (.int .i64 (⟨1, ss, x1, x2, x3, x4⟩ : SH).k) := rngK r1
  have qS : ((w.alloc (.cells #[.map (some tb), .map (some (tb + 1))] 115)).alloc (.cells (sarr (⟨1, ss, x1, x2, x3, x4⟩ : SH) v1 v2 v3 v4 v) 119)).cell? ⟨w.heap.size + 1, 1, Option.none⟩ = some (.string ss) := rngS r1
  clear r0 r1 rb hT hA
  obtain rfl := hbk (kne h1 (by omega))
  have HP := hid (stmtP_nil (R := R) hTT hAF hex (kne h1 (by omega)))
  obtain ⟨b, Hb⟩ : ∃ b, Hid (decide (T ss = 0 ∨ T ss = 2) = b) := ⟨_, rfl⟩
  have CB := hid (becomes_is tb (tb + 1) n T ss hs 2 (by omega) (by omega) b Hb.out _ HR.out.1)
  have HN := hid (fun (hf : T ss = 0 ∨ T ss = 2) => show TT arrs (ps ++ ((⟨1, ss, x1, x2, x3, x4⟩ : SH), .nil) :: sall .nil) (setT T ss 2) from by
    have := hTT.next (⟨1, ss, x1, x2, x3, x4⟩ : SH) .nil ⟨hex, fun _ => hf, fun e => absurd e (kne h1 (by omega)), fun e => absurd e (kne h1 (by omega))⟩
    unfold nextT at this; rw [if_pos h1] at this; exact this)
  have Hb1 := hid (show (b = true ↔ stmtP arrs ps R (⟨1, ss, x1, x2, x3, x4⟩ : SH) .nil) by
    rw [HP.out, ← Hb.out, decide_eq_true_iff]
    exact ⟨fun e => ⟨fun _ => e, fun e => absurd e (kne h1 (by omega))⟩, fun e => e.1 h1⟩)
  skip
  clear HP hTT hAF hex hbk ih
  go_enter Tryz.func132, Tryz.ntmps132
  go_wp2_with fail
  refine CB.out.mono ?_
  rintro e w1 ⟨rfl, hr1, hg1⟩
  have G := hid ((Gap.of tb (tb + 2) RR.out.2.2).trans (hg1.wider (Nat.le_refl _) (Nat.le_succ _)))
  have HR1 := hid hr1
  have HA1 := hid (HR.out.2.gap hg1 (.inr (Nat.le_refl _)))
  clear hr1 hg1 CB
  go_wp2
  go_ret
  refine ⟨b, rfl, Hb1.out, G.out, HA1.out.more (by omega), fun hbt => ⟨_, HR1.out.more (by omega), HN.out ?_⟩⟩
  rw [← Hb.out, decide_eq_true_iff] at hbt; exact hbt
set_option maxHeartbeats 4000000 in
set_option maxRecDepth 100000 in
theorem stmtFits_2 (ss : ByteArray) (x1 x2 x3 x4 : X) (l : SF) (ih : BodyC l) (v1 v2 v3 v4 v : Value) (hs : ss.size ≤ 10000000) (w0 w : World) (tb n : Nat) (arrs : List ByteArray) (ps : List SN) (T : ByteArray → Int) (R : ByteArray → Bool) (hv : SV w0 0 l v) (h0 : w0.heap.size ≤ tb) (hb0 : Below w0.heap.size w0 w)
    (hT : Rd w tb n T) (hA : Rd w (tb + 1) n (asInt R)) (hn : n + 2 + 2 * snodes l ≤ 1000000) (hni : nice l) (hbo : bodies l) (hbk : (⟨2, ss, x1, x2, x3, x4⟩ : SH).k ≠ 3 → l = .nil) (hTT : TT arrs ps T) (hAF : AllFit arrs ps) (hex : expFits arrs (⟨2, ss, x1, x2, x3, x4⟩ : SH)) :
    Calls Tryz.prog 132 #[nam tb (tb + 1), sagg (⟨2, ss, x1, x2, x3, x4⟩ : SH) v1 v2 v3 v4 v] w (FitsTo w tb (n + 2 + 2 * snodes l) arrs (ps ++ ((⟨2, ss, x1, x2, x3, x4⟩ : SH), l) :: sall l) R (stmtP arrs ps R (⟨2, ss, x1, x2, x3, x4⟩ : SH) l)) := by
  have h2 : (⟨2, ss, x1, x2, x3, x4⟩ : SH).k = 2 := rfl
  have h1 : ¬ (⟨2, ss, x1, x2, x3, x4⟩ : SH).k = 1 := kne h2 (by omega)
  obtain ⟨r0, r1, rb⟩ := two_blk w #[.map (some tb), .map (some (tb + 1))] (sarr (⟨2, ss, x1, x2, x3, x4⟩ : SH) v1 v2 v3 v4 v) 115 119
  have hltT := hT.lt
  have hltA := hA.lt
  have HR := hid (And.intro (hT.below rb) (hA.below rb))
  have RR := hid (And.intro r0 (And.intro r1 rb))
  have q0 : ((w.alloc (.cells #[.map (some tb), .map (some (tb + 1))] 115)).alloc (.cells (sarr (⟨2, ss, x1, x2, x3, x4⟩ : SH) v1 v2 v3 v4 v) 119)).cell? ⟨w.heap.size, 0, Option.none⟩ = some (.map (some tb)) := r0 0 _ rfl
  have q1 : ((w.alloc (.cells #[.map (some tb), .map (some (tb + 1))] 115)).alloc (.cells (sarr (⟨2, ss, x1, x2, x3, x4⟩ : SH) v1 v2 v3 v4 v) 119)).cell? ⟨w.heap.size, 1, Option.none⟩ = some (.map (some (tb + 1))) := r0 1 _ rfl
  have qK : ((w.alloc (.cells #[.map (some tb), .map (some (tb + 1))] 115)).alloc (.cells (sarr (⟨2, ss, x1, x2, x3, x4⟩ : SH) v1 v2 v3 v4 v) 119)).cell? ⟨w.heap.size + 1, 0, Option.none⟩ = some (.int .i64 (⟨2, ss, x1, x2, x3, x4⟩ : SH).k) := rngK r1
  have qS : ((w.alloc (.cells #[.map (some tb), .map (some (tb + 1))] 115)).alloc (.cells (sarr (⟨2, ss, x1, x2, x3, x4⟩ : SH) v1 v2 v3 v4 v) 119)).cell? ⟨w.heap.size + 1, 1, Option.none⟩ = some (.string ss) := rngS r1
  clear r0 r1 rb hT hA
  obtain rfl := hbk (kne h2 (by omega))
  have HP := hid (stmtP_nil (R := R) hTT hAF hex (kne h2 (by omega)))
  obtain ⟨b, Hb⟩ : ∃ b, Hid (decide (T ss = 1) = b) := ⟨_, rfl⟩
  have CB := hid (isArr_is tb (tb + 1) n T ss hs b Hb.out _ HR.out.1)
  have HN := hid (fun (hf : T ss = 1) => show TT arrs (ps ++ ((⟨2, ss, x1, x2, x3, x4⟩ : SH), .nil) :: sall .nil) T from by
    have := hTT.next (⟨2, ss, x1, x2, x3, x4⟩ : SH) .nil ⟨hex, fun e => absurd e (kne h2 (by omega)), fun _ => hf, fun e => absurd e (kne h2 (by omega))⟩
    unfold nextT at this; rw [if_neg h1, if_neg (kne h2 (by omega))] at this; exact this)
  have Hb1 := hid (show (b = true ↔ stmtP arrs ps R (⟨2, ss, x1, x2, x3, x4⟩ : SH) .nil) by
    rw [HP.out, ← Hb.out, decide_eq_true_iff]
    exact ⟨fun e => ⟨fun e1 => absurd e1 h1, fun _ => e⟩, fun e => e.2 h2⟩)
  skip
  clear HP hTT hAF hex hbk ih
  go_enter Tryz.func132, Tryz.ntmps132
  go_wp2_with fail
  refine CB.out.mono ?_
  rintro e w1 ⟨rfl, hb1⟩
  have G := hid (Gap.of tb (tb + 2) (RR.out.2.2.trans (hb1.mono RR.out.2.2.size)))
  have HR1 := hid (And.intro (HR.out.1.below hb1) (HR.out.2.below hb1))
  clear hb1 CB
  go_wp2
  go_ret
  refine ⟨b, rfl, Hb1.out, G.out, HR1.out.2.more (by omega), fun hbt => ⟨_, HR1.out.1.more (by omega), HN.out ?_⟩⟩
  rw [← Hb.out, decide_eq_true_iff] at hbt; exact hbt
set_option maxHeartbeats 4000000 in
set_option maxRecDepth 100000 in
theorem stmtFits_3 (ss : ByteArray) (x1 x2 x3 x4 : X) (l : SF) (ih : BodyC l) (v1 v2 v3 v4 v : Value) (hs : ss.size ≤ 10000000) (w0 w : World) (tb n : Nat) (arrs : List ByteArray) (ps : List SN) (T : ByteArray → Int) (R : ByteArray → Bool) (hv : SV w0 0 l v) (h0 : w0.heap.size ≤ tb) (hb0 : Below w0.heap.size w0 w)
    (hT : Rd w tb n T) (hA : Rd w (tb + 1) n (asInt R)) (hn : n + 2 + 2 * snodes l ≤ 1000000) (hni : nice l) (hbo : bodies l) (hbk : (⟨3, ss, x1, x2, x3, x4⟩ : SH).k ≠ 3 → l = .nil) (hTT : TT arrs ps T) (hAF : AllFit arrs ps) (hex : expFits arrs (⟨3, ss, x1, x2, x3, x4⟩ : SH)) :
    Calls Tryz.prog 132 #[nam tb (tb + 1), sagg (⟨3, ss, x1, x2, x3, x4⟩ : SH) v1 v2 v3 v4 v] w (FitsTo w tb (n + 2 + 2 * snodes l) arrs (ps ++ ((⟨3, ss, x1, x2, x3, x4⟩ : SH), l) :: sall l) R (stmtP arrs ps R (⟨3, ss, x1, x2, x3, x4⟩ : SH) l)) := by
  have h3 : (⟨3, ss, x1, x2, x3, x4⟩ : SH).k = 3 := rfl
  have h1 : ¬ (⟨3, ss, x1, x2, x3, x4⟩ : SH).k = 1 := kne h3 (by omega)
  have h2 : ¬ (⟨3, ss, x1, x2, x3, x4⟩ : SH).k = 2 := kne h3 (by omega)
  obtain ⟨r0, r1, rb⟩ := two_blk w #[.map (some tb), .map (some (tb + 1))] (sarr (⟨3, ss, x1, x2, x3, x4⟩ : SH) v1 v2 v3 v4 v) 115 119
  have hltT := hT.lt
  have hltA := hA.lt
  have HR := hid (And.intro (hT.below rb) (hA.below rb))
  have RR := hid (And.intro r0 (And.intro r1 rb))
  have q0 : ((w.alloc (.cells #[.map (some tb), .map (some (tb + 1))] 115)).alloc (.cells (sarr (⟨3, ss, x1, x2, x3, x4⟩ : SH) v1 v2 v3 v4 v) 119)).cell? ⟨w.heap.size, 0, Option.none⟩ = some (.map (some tb)) := r0 0 _ rfl
  have q1 : ((w.alloc (.cells #[.map (some tb), .map (some (tb + 1))] 115)).alloc (.cells (sarr (⟨3, ss, x1, x2, x3, x4⟩ : SH) v1 v2 v3 v4 v) 119)).cell? ⟨w.heap.size, 1, Option.none⟩ = some (.map (some (tb + 1))) := r0 1 _ rfl
  have qK : ((w.alloc (.cells #[.map (some tb), .map (some (tb + 1))] 115)).alloc (.cells (sarr (⟨3, ss, x1, x2, x3, x4⟩ : SH) v1 v2 v3 v4 v) 119)).cell? ⟨w.heap.size + 1, 0, Option.none⟩ = some (.int .i64 (⟨3, ss, x1, x2, x3, x4⟩ : SH).k) := rngK r1
  have qS : ((w.alloc (.cells #[.map (some tb), .map (some (tb + 1))] 115)).alloc (.cells (sarr (⟨3, ss, x1, x2, x3, x4⟩ : SH) v1 v2 v3 v4 v) 119)).cell? ⟨w.heap.size + 1, 1, Option.none⟩ = some (.string ss) := rngS r1
  clear r0 r1 rb hT hA
  obtain ⟨b, Hb⟩ : ∃ b, Hid (decide (T ss = 0 ∨ T ss = 3) = b) := ⟨_, rfl⟩
  have CB := hid (becomes_is tb (tb + 1) n T ss hs 3 (by omega) (by omega) b Hb.out _ HR.out.1)
  have HPL := hid (stmtP_loop (R := R) (l := l) hTT hAF hex h3)
  have HS := hid (fun ht => stepFits_loop (T := T) hex h3 ht)
  have HN := hid (fun (ht : T ss = 0 ∨ T ss = 3) => show TT arrs (ps ++ [((⟨3, ss, x1, x2, x3, x4⟩ : SH), l)]) (setT T ss 3) from by
    have := hTT.next (⟨3, ss, x1, x2, x3, x4⟩ : SH) l (HS.out ht)
    unfold nextT at this; rw [if_neg h1, if_pos h3] at this; exact this)
  have HF := hid (fun (ht : T ss = 0 ∨ T ss = 3) => (step_iff hTT hAF (⟨3, ss, x1, x2, x3, x4⟩ : SH) l).1 (HS.out ht))
  have q18 : ∀ w', Gap tb (tb + 2) ((w.alloc (.cells #[.map (some tb), .map (some (tb + 1))] 115)).alloc (.cells (sarr (⟨3, ss, x1, x2, x3, x4⟩ : SH) v1 v2 v3 v4 v) 119)) w' → w'.rangeAt w.heap.size 0 [.map (some tb), .map (some (tb + 1))] ∧ w'.rangeAt (w.heap.size + 1) 0 (scells (⟨3, ss, x1, x2, x3, x4⟩ : SH) v1 v2 v3 v4 v) := fun w' hg => ⟨range_gap RR.out.1 hg (by omega), range_gap RR.out.2.1 hg (by omega)⟩
  have H18 := hid q18
  skip
  have Hih := hid ih
  have HVV := hid (And.intro hv hb0)
  have HM := hid (And.intro hni hbo)
  clear hTT hAF hex hbk q18 HS ih hv hb0
  go_enter Tryz.func132, Tryz.ntmps132
  go_wp2_with fail
  refine CB.out.mono ?_
  rintro e w1 ⟨rfl, hr1, hg1⟩
  have hg1' := hg1.wider (Nat.le_refl _) (Nat.le_succ (tb + 1))
  have G := hid ((Gap.of tb (tb + 2) RR.out.2.2).trans hg1')
  have HR1 := hid hr1
  have HA1 := hid (HR.out.2.gap hg1 (.inr (Nat.le_refl _)))
  obtain ⟨p0, p1⟩ := H18.out w1 hg1'
  have PP := hid (And.intro p0 p1)
  have m0 := p0 0 _ rfl
  have m1 := p0 1 _ rfl
  clear hr1 hg1 hg1' CB p0 p1
  cases b with
  | false =>
    have hnt := hid (of_decide_eq_false Hb.out)
    go_wp2
    go_ret
    exact ⟨false, rfl, ⟨fun e => (by cases e), fun e => absurd (HPL.out e).1 hnt.out⟩, G.out, HA1.out.more (by omega), fun e => by cases e⟩
  | true =>
    have hyt := hid (of_decide_eq_true Hb.out)
    cases hin : R ss with
    | true =>
      have CL := hid (loopFits_in (⟨3, ss, x1, x2, x3, x4⟩ : SH) v1 v2 v3 v4 v hs w1 tb n R HA1.out hin)
      have Hin := hid hin
      clear hin
      go_wp2_with (refine load_if (by rfl) 119 _ rfl (w.heap.size + 1) 0 rfl _ _ PP.out.2 Tryz.underlying119 rfl sizeIS ?_)
      refine CL.out.mono ?_
      rintro e w2 ⟨rfl, hb2⟩
      have G2 := hid (G.out.trans (Gap.of tb (tb + 2) hb2))
      have HA2 := hid (HA1.out.below hb2)
      clear hb2 CL m0 m1
      go_wp2
      go_ret
      exact ⟨false, rfl, ⟨fun e => (by cases e), fun e => by have := (HPL.out e).2; rw [Hin.out] at this; cases this⟩, G2.out, HA2.out.more (by omega), fun e => by cases e⟩
    | false =>
      have CL := hid (loopFits_out (⟨3, ss, x1, x2, x3, x4⟩ : SH) l Hih.out v1 v2 v3 v4 v hs w0 w1 tb (n + 1) arrs (ps ++ [((⟨3, ss, x1, x2, x3, x4⟩ : SH), l)]) (setT T ss 3) R HVV.out.1 h0 (HVV.out.2.trans (G.out.below h0 HVV.out.2.size)) HR1.out (HA1.out.more (Nat.le_succ _)) (by omega) HM.out.1 HM.out.2 (HN.out hyt.out) (HF.out hyt.out) hin)
      have Hin := hid hin
      clear hin
      go_wp2_with (refine load_if (by rfl) 119 _ rfl (w.heap.size + 1) 0 rfl _ _ PP.out.2 Tryz.underlying119 rfl sizeIS ?_)
      refine CL.out.mono ?_
      rintro e w2 ⟨b, rfl, hb, hg2, hA2, hT2⟩
      have RES := hid (And.intro hb (And.intro (G.out.trans hg2) (And.intro hA2 hT2)))
      clear hb hg2 hA2 hT2 CL m0 m1
      go_wp2
      go_ret
      have e2 : n + 1 + 1 + 2 * snodes l = n + 2 + 2 * snodes l := by omega
      obtain ⟨x1, x2, x3, x4⟩ := RES.out
      rw [snoc_cons] at x1 x4
      rw [e2] at x3 x4
      exact ⟨b, rfl, x1.trans ⟨fun e => ⟨e.1, fun _ => ⟨Hin.out, e.2⟩⟩, fun e => ⟨e.1, (e.2 rfl).2⟩⟩, x2, x3, x4⟩
set_option maxHeartbeats 4000000 in
set_option maxRecDepth 100000 in
theorem stmtFits_0 (h : SH) (l : SF) (ih : BodyC l) (v1 v2 v3 v4 v : Value) (hs : h.s.size ≤ 10000000) (w0 w : World) (tb n : Nat) (arrs : List ByteArray) (ps : List SN) (T : ByteArray → Int) (R : ByteArray → Bool) (hv : SV w0 0 l v) (h0 : w0.heap.size ≤ tb) (hb0 : Below w0.heap.size w0 w)
    (hT : Rd w tb n T) (hA : Rd w (tb + 1) n (asInt R)) (hn : n + 2 + 2 * snodes l ≤ 1000000) (hni : nice l) (hbo : bodies l) (h1 : ¬ h.k = 1) (h2 : ¬ h.k = 2) (h3 : ¬ h.k = 3) (hbk : h.k ≠ 3 → l = .nil) (hTT : TT arrs ps T) (hAF : AllFit arrs ps) (hex : expFits arrs h) :
    Calls Tryz.prog 132 #[nam tb (tb + 1), sagg h v1 v2 v3 v4 v] w (FitsTo w tb (n + 2 + 2 * snodes l) arrs (ps ++ (h, l) :: sall l) R (stmtP arrs ps R h l)) := by
  obtain ⟨r0, r1, rb⟩ := two_blk w #[.map (some tb), .map (some (tb + 1))] (sarr h v1 v2 v3 v4 v) 115 119
  have hltT := hT.lt
  have hltA := hA.lt
  have HR := hid (And.intro (hT.below rb) (hA.below rb))
  have RR := hid (And.intro r0 (And.intro r1 rb))
  have q0 : ((w.alloc (.cells #[.map (some tb), .map (some (tb + 1))] 115)).alloc (.cells (sarr h v1 v2 v3 v4 v) 119)).cell? ⟨w.heap.size, 0, Option.none⟩ = some (.map (some tb)) := r0 0 _ rfl
  have q1 : ((w.alloc (.cells #[.map (some tb), .map (some (tb + 1))] 115)).alloc (.cells (sarr h v1 v2 v3 v4 v) 119)).cell? ⟨w.heap.size, 1, Option.none⟩ = some (.map (some (tb + 1))) := r0 1 _ rfl
  have qK : ((w.alloc (.cells #[.map (some tb), .map (some (tb + 1))] 115)).alloc (.cells (sarr h v1 v2 v3 v4 v) 119)).cell? ⟨w.heap.size + 1, 0, Option.none⟩ = some (.int .i64 h.k) := rngK r1
  have qS : ((w.alloc (.cells #[.map (some tb), .map (some (tb + 1))] 115)).alloc (.cells (sarr h v1 v2 v3 v4 v) 119)).cell? ⟨w.heap.size + 1, 1, Option.none⟩ = some (.string h.s) := rngS r1
  clear r0 r1 rb hT hA
  obtain rfl := hbk h3
  have HP := hid (stmtP_nil (R := R) hTT hAF hex h3)
  have HN := hid (show TT arrs (ps ++ (h, .nil) :: sall .nil) T from by
    have := hTT.next h .nil ⟨hex, fun e => absurd e h1, fun e => absurd e h2, fun e => absurd e h3⟩
    unfold nextT at this; rw [if_neg h1, if_neg h3] at this; exact this)
  have Hb1 := hid (show stmtP arrs ps R h .nil from HP.out.2 ⟨fun e => absurd e h1, fun e => absurd e h2⟩)
  have e1 := int_ne h1
  have e2 := int_ne h2
  have e3 := int_ne h3
  have G := hid (Gap.of tb (tb + 2) RR.out.2.2)
  clear HP hTT hAF hex hbk ih
  go_enter Tryz.func132, Tryz.ntmps132
  go_wp2
  go_ret
  exact ⟨true, rfl, ⟨fun _ => Hb1.out, fun _ => rfl⟩, G.out, HR.out.2.more (by omega), fun _ => ⟨_, HR.out.1.more (by omega), HN.out⟩⟩
set_option maxHeartbeats 4000000 in
set_option maxRecDepth 100000 in
theorem stmtFits_is (h : SH) (l : SF) (ih : BodyC l) (v1 v2 v3 v4 v : Value) (hs : h.s.size ≤ 10000000) (w0 w : World) (tb n : Nat) (arrs : List ByteArray) (ps : List SN) (T : ByteArray → Int) (R : ByteArray → Bool) (hv : SV w0 0 l v) (h0 : w0.heap.size ≤ tb) (hb0 : Below w0.heap.size w0 w)
    (hT : Rd w tb n T) (hA : Rd w (tb + 1) n (asInt R)) (hn : n + 2 + 2 * snodes l ≤ 1000000) (hni : nice l) (hbo : bodies l) (hbk : h.k ≠ 3 → l = .nil) (hTT : TT arrs ps T) (hAF : AllFit arrs ps) (hex : expFits arrs h) :
    Calls Tryz.prog 132 #[nam tb (tb + 1), sagg h v1 v2 v3 v4 v] w (FitsTo w tb (n + 2 + 2 * snodes l) arrs (ps ++ (h, l) :: sall l) R (stmtP arrs ps R h l)) := by
  by_cases h1 : h.k = 1
  · obtain ⟨kk, ss, x1, x2, x3, x4⟩ := h
    obtain rfl : kk = 1 := h1
    exact stmtFits_1 ss x1 x2 x3 x4 l ih v1 v2 v3 v4 v hs w0 w tb n arrs ps T R hv h0 hb0 hT hA hn hni hbo hbk hTT hAF hex
  · by_cases h2 : h.k = 2
    · obtain ⟨kk, ss, x1, x2, x3, x4⟩ := h
      obtain rfl : kk = 2 := h2
      exact stmtFits_2 ss x1 x2 x3 x4 l ih v1 v2 v3 v4 v hs w0 w tb n arrs ps T R hv h0 hb0 hT hA hn hni hbo hbk hTT hAF hex
    · by_cases h3 : h.k = 3
      · obtain ⟨kk, ss, x1, x2, x3, x4⟩ := h
        obtain rfl : kk = 3 := h3
        exact stmtFits_3 ss x1 x2 x3 x4 l ih v1 v2 v3 v4 v hs w0 w tb n arrs ps T R hv h0 hb0 hT hA hn hni hbo hbk hTT hAF hex
      · exact stmtFits_0 h l ih v1 v2 v3 v4 v hs w0 w tb n arrs ps T R hv h0 hb0 hT hA hn hni hbo h1 h2 h3 hbk hTT hAF hex
theorem eFit_iff {arrs : List ByteArray} {ps : List SN} {T : ByteArray → Int} (hT : TT arrs ps T) (h : SH) : (enall (four h)).all (eFitB T) = true ↔ expFits arrs h := by
  rw [four_all, List.all_eq_true]
  constructor
  · intro g a ha
    have := g a ha
    unfold eFitB at this
    simp only [Bool.and_eq_true, Bool.or_eq_true, Bool.not_eq_true', decide_eq_false_iff_not, decide_eq_true_eq] at this
    refine ⟨fun e => ?_, fun e hm => ?_⟩
    · rcases this.1 with c | c
      · exact absurd e c
      · exact (hT.arr _).1 c
    · rcases this.2 with c | c
      · exact absurd e c
      · exact c ((hT.arr _).2 hm)
  · intro g a ha
    obtain ⟨g1, g2⟩ := g a ha
    unfold eFitB
    simp only [Bool.and_eq_true, Bool.or_eq_true, Bool.not_eq_true', decide_eq_false_iff_not, decide_eq_true_eq]
    constructor
    · by_cases e : a.1.k = 3
      · exact .inr ((hT.arr _).2 (g1 e))
      · exact .inl e
    · by_cases e : a.1.k = 2
      · exact .inr (fun c => g2 e ((hT.arr _).1 c))
      · exact .inl e
theorem fit_split {arrs : List ByteArray} {qs : List SN} {R : ByteArray → Bool} {h : SH} {l r : SF} {p q : Nat} :
    (AllFit arrs (qs ++ sall (.node p q h l r)) ∧ nestP (.node p q h l r) R) ↔ (stmtP arrs qs R h l ∧ (AllFit arrs ((qs ++ (h, l) :: sall l) ++ sall r) ∧ nestP r R)) := by
  have e : qs ++ sall (.node p q h l r) = (qs ++ (h, l) :: sall l) ++ sall r := by simp [sall]
  rw [e]
  constructor
  · rintro ⟨a, b, c⟩; exact ⟨⟨a.left, b⟩, a, c⟩
  · rintro ⟨⟨_, b⟩, a, c⟩; exact ⟨a, b, c⟩
theorem stmtP_exp {arrs : List ByteArray} {qs : List SN} {R : ByteArray → Bool} {h : SH} {l : SF} (hp : stmtP arrs qs R h l) : expFits arrs h := (hp.1 (h, l) (by simp)).1
theorem sizeNM : (Tryz.prog.info? 115).map (·.size) = some 2 := by kernel_rfl
structure Bd (arrs : List ByteArray) (ps : List SN) (F : SF) (R : ByteArray → Bool) (n : Nat) (w0 w wr : World) (tb b o : Nat) (Rr : SF) (j : Nat) (qs : List SN) (T : ByteArray → Int) (m : Nat) : Prop where
  num : j + slen Rr = slen F
  at_ : SIn w0 0 Rr b (o + j * 19)
  things : Rd wr tb m T
  around : Rd wr (tb + 1) m (asInt R)
  few : m + 2 * snodes Rr ≤ n + 2 * snodes F
  sub : snodes Rr ≤ snodes F
  tt : TT arrs qs T
  fit : AllFit arrs qs
  gap : Gap tb (tb + 2) w wr
  nic : nice Rr
  bod : bodies Rr
  iff : (AllFit arrs (qs ++ sall Rr) ∧ nestP Rr R) ↔ (AllFit arrs (ps ++ sall F) ∧ nestP F R)
  same : qs ++ sall Rr = ps ++ sall F
  box : wr.rangeAt w.heap.size 0 [.map (some tb), .map (some (tb + 1))]
set_option maxHeartbeats 4000000 in
set_option maxRecDepth 100000 in
theorem bodyFits_step (F : SF) (ih : ∀ l : SF, snodes l < snodes F → BodyC l) : BodyC F := by
  intro w0 w v tb n arrs ps T R hv h0 hb0 hT hA hn hni hbo hTT hAF
  have B0 := hid (alloc_below w (.cells #[.map (some tb), .map (some (tb + 1))] 115))
  obtain ⟨b, o, ao, cap, rfl, hao, _, hin⟩ := hv
  have hlenF := slen_le F
  have Hih := hid ih
  have HB0 := hid hb0
  have hltA := hA.lt
  have S0 : Hid (Bd arrs ps F R n w0 w (w.alloc (.cells #[.map (some tb), .map (some (tb + 1))] 115)) tb b o F 0 ps T n) :=
    hid ⟨by omega, by simpa using hin, hT.below B0.out, hA.below B0.out, Nat.le_refl _, Nat.le_refl _, hTT, hAF, Gap.of _ _ B0.out, hni, hbo, Iff.rfl, rfl, blk_range (arr := #[.map (some tb), .map (some (tb + 1))]) (heap_last _ _)⟩
  clear ih hb0 hT hA hni hbo hTT hAF hin
  go_enter Tryz.func75, Tryz.ntmps75
  go_wp2
  go_loopw [9] (fun i wr => ∃ (Rr : SF) (j : Nat) (qs : List SN) (T : ByteArray → Int) (m : Nat), i = .int .i64 (j : Int) ∧ Hid (Bd arrs ps F R n w0 w wr tb b o Rr j qs T m)) (fun i _ => slen F - (RowKit.intOf i).toNat)
  case atStart => exact ⟨F, 0, ps, T, n, rfl, S0⟩
  case round =>
    obtain ⟨Rr, j, qs, T, m, rfl, hr⟩ := hrel
    clear S0
    have e1 := hr.out.num
    cases Rr with
    | nil =>
      have hk : ¬ (j : Int) < (slen F : Int) := by simp only [slen] at e1; omega
      go_wp2
      go_ret
      have hs := hr.out.same
      simp only [sall, List.append_nil] at hs
      have hf := hr.out.few
      simp only [snodes] at hf
      refine ⟨true, rfl, ⟨fun _ => hr.out.iff.1 ⟨by simpa [sall] using hr.out.fit, trivial⟩, fun _ => rfl⟩, hr.out.gap, hr.out.around.more (by omega), fun _ => ⟨T, hr.out.things.more (by omega), by rw [← hs]; exact hr.out.tt⟩⟩
    | node p q h l r =>
      have hlt : (j : Int) < (slen F : Int) := by simp only [slen] at e1; omega
      have hne : ¬ F = .nil := by intro e; subst e; simp only [slen] at e1; omega
      obtain rfl : ao = some ⟨b, o, Option.none⟩ := hao.resolve_right hne
      have hbz : Below w0.heap.size w0 wr := HB0.out.trans (hr.out.gap.below h0 HB0.out.size)
      obtain ⟨v1, v2, v3, v4, u, hv0, hu0, hrg0⟩ := SC.range (SIn_node.1 hr.out.at_).1
      have Hrg := hid (rangeAt_later hrg0 hbz)
      have HV0 := hid (And.intro hv0 hu0)
      have o1 := hv0.e1.isOne; have o2 := hv0.e2.isOne; have o3 := hv0.e3.isOne; have o4 := hv0.e4.isOne; have o5 := hu0.isOne
      have f1 := hv0.e1.shape; have f2 := hv0.e2.shape; have f3 := hv0.e3.shape; have f4 := hv0.e4.shape
      have HX : Hid (∀ W, Calls Tryz.prog 131 #[.agg (scells h v1 v2 v3 v4 u).toArray] W fun e w' => ∃ g, e = .returned (.slice (some ⟨g, 0, Option.none⟩) 4 4) ∧ w'.rangeAt g 0 (fcells h v1 v2 v3 v4) ∧ W.heap.size ≤ g ∧ Below W.heap.size W w') := hid (fun W => expsOf_is h v1 v2 v3 v4 u W (by obtain ⟨a, c, e⟩ := f1; exact ⟨a, _, c, e⟩) (by obtain ⟨a, c, e⟩ := f2; exact ⟨a, _, c, e⟩) (by obtain ⟨a, c, e⟩ := f3; exact ⟨a, _, c, e⟩) (by obtain ⟨a, c, e⟩ := f4; exact ⟨a, _, c, e⟩))
      obtain ⟨hnh, hnl, hne2⟩ := hr.out.nic (h, l) (by simp [sall])
      have hfew := hr.out.few
      have hsub := hr.out.sub
      simp only [snodes] at hfew hsub
      have Hl := hid (Hih.out l (by omega))
      obtain ⟨bx, Hbx⟩ : ∃ bx, Hid ((enall (four h)).all (eFitB T) = bx) := ⟨_, rfl⟩
      have HE : Hid (∀ (W : World) (g : Nat), Below wr.heap.size wr W → W.rangeAt g 0 (fcells h v1 v2 v3 v4) → Calls Tryz.prog 130 #[nam tb (tb + 1), .slice (some ⟨g, 0, Option.none⟩) 4 4] W fun e w' => e = .returned (.bool bx) ∧ Below W.heap.size W w') := hid (fun W g hbW hg => by
        rw [← Hbx.out]
        exact expsFit_is (four h) (by rw [four_nodes]; exact hnl) (fun a ha => by rw [four_all] at ha; exact hne2 a ha) tb (tb + 1) m T W _ (laid_four ((hv0.later hbz).later hbW) hg) (hr.out.things.below hbW))
      have HIF := hid (hr.out.iff.symm.trans fit_split)
      have HS : Hid (bx = true → ∀ (W : World), Below wr.heap.size wr W → Calls Tryz.prog 132 #[nam tb (tb + 1), .agg (scells h v1 v2 v3 v4 u).toArray] W (FitsTo W tb (m + 2 + 2 * snodes l) arrs (qs ++ (h, l) :: sall l) R (stmtP arrs qs R h l))) := hid (fun hbt W hbW =>
        stmtFits_is h l Hl.out v1 v2 v3 v4 u hnh w0 W tb m arrs qs T R hu0 h0 (hbz.trans (hbW.mono hbz.size)) (hr.out.things.below hbW) (hr.out.around.below hbW) (by omega) (fun a ha => hr.out.nic a (by simp [sall, ha])) hr.out.bod.2.1 hr.out.bod.1 hr.out.tt hr.out.fit ((eFit_iff hr.out.tt h).1 (Hbx.out.trans hbt)))
      have hsz := hr.out.gap.size
      have Hbz := hid hbz
      have Hbxx := hid (fun (hp : stmtP arrs qs R h l) => Hbx.out.symm.trans ((eFit_iff hr.out.tt h).2 (stmtP_exp hp)))
      clear hrg0 hv0 hu0 f1 f2 f3 f4 hbz hnh hnl hne2 hne hao Hih
      go_wp2_with (first | (refine wpList_load_mid rfl 119 _ rfl b (o + j * 19) rfl _ _ Hrg.out Tryz.underlying119 rfl sizeIS ?_) | (refine store_abs rfl 119 _ _ rfl _ _ _ rfl rfl ?ht sizeIS ?ho ?_; exact (newthere wr _); exact (oneS h v1 v2 v3 v4 _ o1 o2 o3 o4 o5); intro W hW; have HW := hid (newblkS h v1 v2 v3 v4 _ hW); clear hW))
      have bd : Below W.heap.size W W.drew := (Below.refl _ W).drew
      have rN := hid (rangeAt_later hr.out.box HW.out.2)
      have hWz := HW.out.2.size
      have hltN : w.heap.size < wr.heap.size := lt_of_cellA (hr.out.box 0 _ rfl)
      refine wp_region_held_drew (S := fun w' => (w'.rangeAt w.heap.size 0 [.map (some tb), .map (some (tb + 1))] ∧ w'.rangeAt wr.heap.size 0 (scells h v1 v2 v3 v4 u)) ∧ Gap tb (tb + 2) w w') (by kernel_rfl) ⟨⟨(World.rangeAt_drew _ _ _ _).2 rN.out, (World.rangeAt_drew _ _ _ _).2 HW.out.1⟩, hr.out.gap.trans (Gap.of _ _ (HW.out.2.trans (bd.mono HW.out.2.size)))⟩ (fun hHeld => ?_)
      refine wpAnyH_take (i := 0) (v := .agg ([.map (some tb), .map (some (tb + 1))]).toArray) rfl (by kernel_rfl) (by kernel_rfl) (by kernel_rfl) (fun _ _ _ h => h) (yieldsIf_load_mid (by rfl) 115 _ rfl (w.heap.size) (0) rfl ([.map (some tb), .map (some (tb + 1))]) _ (fun w h => h.1.1) Tryz.underlying115 rfl sizeNM) hHeld ?_
      simp only [Act.put, zp]
      refine wpAnyH_take (i := 1) (v := .agg (scells h v1 v2 v3 v4 u).toArray) rfl (by kernel_rfl) (by kernel_rfl) (by kernel_rfl) (fun _ _ _ h => h) (yieldsIf_load_mid (by rfl) 119 _ rfl (wr.heap.size) (0) rfl (scells h v1 v2 v3 v4 u) _ (fun w h => h.1.2) Tryz.underlying119 rfl sizeIS) hHeld ?_
      simp only [Act.put, zp]
      refine wpAnyH_ready (rs := [2]) (by kernel_rfl) (by simp) ?_
      refine AllReadyH.cons rfl (fun K hK => ?_) AllReadyH.nil
      rw [if_pos (by rfl)]
      simp only [zq]
      go_wp2_with fail
      refine (HX.out _).mono ?_
      rintro e w5 ⟨g, rfl, hg5, hgz, hb5⟩
      have B5 := hid (HW.out.2.trans ((bd.trans (hb5.mono bd.size)).mono HW.out.2.size))
      go_wp2_with fail
      refine hK.out _ _ (⟨⟨rangeAt_later hHeld.1.1 hb5, rangeAt_later hHeld.1.2 hb5⟩, hHeld.2.trans (Gap.of _ _ hb5)⟩) (fun hHeld => ?_)
      refine wpAnyH_ready (rs := [3]) (by kernel_rfl) (by simp) ?_
      refine AllReadyH.cons rfl (fun K hK => ?_) AllReadyH.nil
      rw [if_pos (by rfl)]
      simp only [zq]
      go_wp2_with fail
      refine (HE.out _ g B5.out hg5).mono ?_
      rintro e w6 ⟨rfl, hb6⟩
      have B6 := hid (B5.out.trans (hb6.mono B5.out.size))
      go_wp2_with fail
      refine hK.out _ _ (⟨⟨rangeAt_later hHeld.1.1 hb6, rangeAt_later hHeld.1.2 hb6⟩, hHeld.2.trans (Gap.of _ _ hb6)⟩) (fun hHeld => ?_)
      cases bx with
      | false =>
        refine wpAnyH_take (i := 4) (v := .bool true) rfl (by kernel_rfl) (by kernel_rfl) (by kernel_rfl) (fun _ _ _ h => h) (Or.inl ⟨by rfl, ?ybf4⟩) hHeld ?_
        case ybf4 => intro w hSw; go_simp
        simp only [Act.put, zp]
        refine wpAnyH_take (i := 5) (v := .bool true) rfl (by kernel_rfl) (by kernel_rfl) (by kernel_rfl) (fun _ _ _ h => h) (Or.inl ⟨by rfl, ?ybf5⟩) hHeld ?_
        case ybf5 => intro w hSw; go_simp
        simp only [Act.put, zp]
        refine wpAnyH_take (i := 6) (v := undef) rfl (by kernel_rfl) (by kernel_rfl) (by kernel_rfl) (fun _ _ _ h => h) (Or.inr ⟨by rfl, rfl⟩) hHeld ?_
        simp only [Act.put, zp]
        refine wpAnyH_take (i := 7) (v := undef) rfl (by kernel_rfl) (by kernel_rfl) (by kernel_rfl) (fun _ _ _ h => h) (Or.inr ⟨by rfl, rfl⟩) hHeld ?_
        simp only [Act.put, zp]
        refine wpAnyH_take (i := 8) (v := undef) rfl (by kernel_rfl) (by kernel_rfl) (by kernel_rfl) (fun _ _ _ h => h) (Or.inr ⟨by rfl, rfl⟩) hHeld ?_
        simp only [Act.put, zp]
        refine wpAnyH_take (i := 9) (v := undef) rfl (by kernel_rfl) (by kernel_rfl) (by kernel_rfl) (fun _ _ _ h => h) (Or.inr ⟨by rfl, rfl⟩) hHeld ?_
        simp only [Act.put, zp]
        refine wpAnyH_take (i := 10) (v := .bool true) rfl (by kernel_rfl) (by kernel_rfl) (by kernel_rfl) (fun _ _ _ h => h) (Or.inl ⟨by rfl, ?ybf10⟩) hHeld ?_
        case ybf10 => intro w hSw; go_simp
        simp only [Act.put, zp]
        refine wpAnyH_done (by kernel_rfl) ?_ _
        have hno := hid (fun (hp : stmtP arrs qs R h l) => (Bool.noConfusion (Hbxx.out hp) : False))
        have G6 := hid hHeld.2
        have A6 := hid (hr.out.around.below B6.out)
        clear hHeld bd hb5 hb6 hg5 HX HE HS
        go_wp2
        go_ret
        refine ⟨false, rfl, ⟨fun e => (by cases e), fun e => absurd (HIF.out.1 e).1 hno.out⟩, G6.out, A6.out.more (by omega), fun e => (by cases e)⟩
      | true =>
        refine wpAnyH_take (i := 4) (v := .bool false) rfl (by kernel_rfl) (by kernel_rfl) (by kernel_rfl) (fun _ _ _ h => h) (Or.inl ⟨by rfl, ?ybt4⟩) hHeld ?_
        case ybt4 => intro w hSw; go_simp
        simp only [Act.put, zp]
        refine wpAnyH_take (i := 5) (v := .bool false) rfl (by kernel_rfl) (by kernel_rfl) (by kernel_rfl) (fun _ _ _ h => h) (Or.inl ⟨by rfl, ?ybt5⟩) hHeld ?_
        case ybt5 => intro w hSw; go_simp
        simp only [Act.put, zp]
        refine wpAnyH_take (i := 6) (v := .agg ([.map (some tb), .map (some (tb + 1))]).toArray) rfl (by kernel_rfl) (by kernel_rfl) (by kernel_rfl) (fun _ _ _ h => h) (yieldsIf_load_mid (by rfl) 115 _ rfl (w.heap.size) (0) rfl ([.map (some tb), .map (some (tb + 1))]) _ (fun w h => h.1.1) Tryz.underlying115 rfl sizeNM) hHeld ?_
        simp only [Act.put, zp]
        refine wpAnyH_take (i := 7) (v := .agg (scells h v1 v2 v3 v4 u).toArray) rfl (by kernel_rfl) (by kernel_rfl) (by kernel_rfl) (fun _ _ _ h => h) (yieldsIf_load_mid (by rfl) 119 _ rfl (wr.heap.size) (0) rfl (scells h v1 v2 v3 v4 u) _ (fun w h => h.1.2) Tryz.underlying119 rfl sizeIS) hHeld ?_
        simp only [Act.put, zp]
        refine wpAnyH_ready (rs := [8]) (by kernel_rfl) (by simp) ?_
        refine AllReadyH.cons rfl (fun K hK => ?_) AllReadyH.nil
        rw [if_pos (by rfl)]
        simp only [zq]
        go_wp2_with fail
        refine (HS.out (by first | exact rfl | trivial) _ B6.out).mono ?_
        rintro e w7 ⟨bs, rfl, hbs, hg7, hA7, hT7⟩
        go_wp2_with fail
        refine hK.out _ _ (⟨⟨range_gap hHeld.1.1 hg7 (by omega), range_gap hHeld.1.2 hg7 (by omega)⟩, hHeld.2.trans hg7⟩) (fun hHeld => ?_)
        have RES := hid (And.intro hbs (And.intro hA7 hT7))
        clear hbs hg7 hA7 hT7 hb5 hb6 hg5 HX HE HS
        cases bs with
        | false =>
          refine wpAnyH_take (i := 9) (v := .bool true) rfl (by kernel_rfl) (by kernel_rfl) (by kernel_rfl) (fun _ _ _ h => h) (Or.inl ⟨by rfl, ?ysf9⟩) hHeld ?_
          case ysf9 => intro w hSw; go_simp
          simp only [Act.put, zp]
          refine wpAnyH_take (i := 10) (v := .bool true) rfl (by kernel_rfl) (by kernel_rfl) (by kernel_rfl) (fun _ _ _ h => h) (Or.inl ⟨by rfl, ?ysf10⟩) hHeld ?_
          case ysf10 => intro w hSw; go_simp
          simp only [Act.put, zp]
          refine wpAnyH_done (by kernel_rfl) ?_ _
          have G7 := hid hHeld.2
          have X7 := hid hHeld.1.1
          clear hHeld bd
          go_wp2
          go_ret
          refine ⟨false, rfl, ⟨fun e => (by cases e), fun e => absurd (RES.out.1.2 (HIF.out.1 e).1) (by simp)⟩, G7.out, RES.out.2.1.more (by omega), fun e => (by cases e)⟩
        | true =>
          refine wpAnyH_take (i := 9) (v := .bool false) rfl (by kernel_rfl) (by kernel_rfl) (by kernel_rfl) (fun _ _ _ h => h) (Or.inl ⟨by rfl, ?yst9⟩) hHeld ?_
          case yst9 => intro w hSw; go_simp
          simp only [Act.put, zp]
          refine wpAnyH_take (i := 10) (v := .bool false) rfl (by kernel_rfl) (by kernel_rfl) (by kernel_rfl) (fun _ _ _ h => h) (Or.inl ⟨by rfl, ?yst10⟩) hHeld ?_
          case yst10 => intro w hSw; go_simp
          simp only [Act.put, zp]
          refine wpAnyH_done (by kernel_rfl) ?_ _
          have G7 := hid hHeld.2
          have X7 := hid hHeld.1.1
          clear hHeld bd
          go_wp2
          go_roundw
          case rel =>
            obtain ⟨T2, t1, t2⟩ := RES.out.2.2 rfl
            have hst := RES.out.1.1 rfl
            refine ⟨r, j + 1, qs ++ (h, l) :: sall l, T2, m + 2 + 2 * snodes l, by go_num, hid ⟨by simp only [slen] at e1; omega, by rw [show o + (j + 1) * 19 = o + j * 19 + 19 by omega]; exact (SIn_node.1 hr.out.at_).2, t1, RES.out.2.1, by omega, by omega, t2, hst.1, G7.out, fun a ha => hr.out.nic a (by simp [sall, ha]), hr.out.bod.2.2, ⟨fun e => HIF.out.2 ⟨hst, e⟩, fun e => (HIF.out.1 e).2⟩, by have := hr.out.same; simp only [sall] at this; rw [← this]; simp, X7.out⟩⟩
          case measure => simp [RowKit.intOf]; omega
theorem bodyFits_all : ∀ (n : Nat) (F : SF), snodes F < n → BodyC F
  | 0, _, h => absurd h (by omega)
  | n + 1, F, h => bodyFits_step F (fun l hl => bodyFits_all n l (by omega))
theorem bodyFits_is (F : SF) : BodyC F := bodyFits_all _ F (Nat.lt_succ_self _)
theorem arrGo_mem : ∀ (ts : List AR) (k : Nat) (s : ByteArray), 0 ≤ arrGo ts k s ↔ s ∈ arrNames ts
  | [], k, s => by simp [arrGo, arrNames]
  | t :: ts, k, s => by
    unfold arrGo
    by_cases e : t.s = s
    · rw [if_pos e]; simp [arrNames, e]
    · rw [if_neg e, arrGo_mem ts (k + 1) s]
      have e' : ¬ s = t.s := fun c => e c.symm
      simp [arrNames, e']
theorem allArrs_iff (ts : List AR) (ns : List ByteArray) : allArrs ts ns = true ↔ ∀ s ∈ ns, s ∈ arrNames ts := by
  unfold allArrs; rw [List.all_eq_true]
  constructor
  · intro h s hs; have := h s hs; rw [decide_eq_true_eq] at this; exact (arrGo_mem ts 0 s).1 this
  · intro h s hs; rw [decide_eq_true_eq]; exact (arrGo_mem ts 0 s).2 (h s hs)
theorem apart_iff (a b : List ByteArray) : apart a b = true ↔ ∀ s ∈ a, s ∉ b := by
  unfold apart; rw [List.all_eq_true]
  constructor
  · intro h s hs hb
    have := h s hs
    rw [List.all_eq_true] at this
    have := this s hb
    simp at this
  · intro h s hs
    rw [List.all_eq_true]
    intro t ht
    have : ¬ t = s := fun e => h s hs (e ▸ ht)
    simp [this]
theorem nestB_iff : ∀ (F : SF) (ns : List ByteArray) (R : ByteArray → Bool), (∀ s, R s = true ↔ s ∈ ns) → (nestB F ns = true ↔ nestP F R)
  | .nil, ns, R, h => by simp [nestB, nestP]
  | .node p q hd l r, ns, R, h => by
    have hr := nestB_iff r ns R h
    have hl := nestB_iff l (ns ++ [hd.s]) (fun s => R s || decide (s = hd.s)) (fun s => by simp [h s])
    simp only [nestB, nestP, Bool.and_eq_true, hr]
    by_cases hk : hd.k = 3
    · rw [if_pos hk, Bool.and_eq_true, hl]
      have hin : ns.all (fun t => !decide (t = hd.s)) = true ↔ R hd.s = false := by
        rw [List.all_eq_true, ← Bool.not_eq_true, h hd.s]
        constructor
        · intro g hm; have := g _ hm; simp at this
        · intro g t ht; have : ¬ t = hd.s := fun e => g (e ▸ ht); simp [this]
      rw [hin]
      simp [hk]
    · rw [if_neg hk]; simp [hk]
theorem nm1 (k : Int) (F : SF) (s : ByteArray) : s ∈ nmS k F [] ↔ ∃ a ∈ sall F, a.1.k = k ∧ a.1.s = s := by
  rw [(nmS_names k F [] List.Pairwise.nil).2 s]
  constructor
  · rintro (h | ⟨a, ha, e⟩)
    · simp at h
    · unfold ofKind at e; split at e
      · injection e with e; exact ⟨a, ha, by assumption, e⟩
      · cases e
  · rintro ⟨a, ha, e1, e2⟩
    exact .inr ⟨a, ha, by unfold ofKind; rw [if_pos e1, e2]⟩
theorem nm2 (k : Int) (F : SF) (s : ByteArray) : s ∈ nmA k F [] ↔ ∃ n ∈ sall F, ∃ a ∈ hall n.1, a.1.k = k ∧ a.1.s = s := by
  rw [(nmA_names k F [] List.Pairwise.nil).2 s]
  constructor
  · rintro (h | ⟨a, ha, e⟩)
    · simp at h
    · obtain ⟨n, hn, hm⟩ := (sallE_mem F a).1 ha
      unfold ofKindE at e; split at e
      · injection e with e; exact ⟨n, hn, a, hm, by assumption, e⟩
      · cases e
  · rintro ⟨n, hn, a, ha, e1, e2⟩
    exact .inr ⟨a, (sallE_mem F a).2 ⟨n, hn, ha⟩, by unfold ofKindE; rw [if_pos e1, e2]⟩
theorem names_iff (ts : List AR) (F : SF) : namesB ts F = true ↔ ((AllFit (arrNames ts) ([] ++ sall F) ∧ nestP F (fun _ => false)) ∧ (nmS 1 F []).length ≤ 6) := by
  unfold namesB
  simp only [Bool.and_eq_true, decide_eq_true_eq, allArrs_iff, apart_iff, List.nil_append]
  rw [nestB_iff F [] (fun _ => false) (fun s => by simp)]
  constructor
  · rintro ⟨a1, a2, a3, a4, a5, a6, a7, a8⟩
    refine ⟨⟨fun n hn => ⟨fun a ha => ⟨fun e => a2 _ ((nm2 3 F _).2 ⟨n, hn, a, ha, e, rfl⟩), fun e hm => a5 _ hm ((nm2 2 F _).2 ⟨n, hn, a, ha, e, rfl⟩)⟩, fun e => a1 _ ((nm1 2 F _).2 ⟨n, hn, e, rfl⟩), fun e => ⟨fun hm => a3 _ hm ((nm1 1 F _).2 ⟨n, hn, e, rfl⟩), fun m hm e3 es => a6 n.1.s ((nm1 1 F _).2 ⟨n, hn, e, rfl⟩) ((nm1 3 F _).2 ⟨m, hm, e3, es⟩)⟩, fun e hm => a4 _ hm ((nm1 3 F _).2 ⟨n, hn, e, rfl⟩)⟩, a7⟩, a8⟩
  · rintro ⟨⟨h, a7⟩, a8⟩
    refine ⟨fun s hs => ?_, fun s hs => ?_, fun s hm hs => ?_, fun s hm hs => ?_, fun s hm hs => ?_, fun s h1 h3 => ?_, a7, a8⟩
    · obtain ⟨n, hn, e, rfl⟩ := (nm1 2 F s).1 hs; exact (h n hn).2.1 e
    · obtain ⟨n, hn, a, ha, e, rfl⟩ := (nm2 3 F s).1 hs; exact ((h n hn).1 a ha).1 e
    · obtain ⟨n, hn, e, rfl⟩ := (nm1 1 F s).1 hs; exact ((h n hn).2.2.1 e).1 hm
    · obtain ⟨n, hn, e, rfl⟩ := (nm1 3 F s).1 hs; exact (h n hn).2.2.2 e hm
    · obtain ⟨n, hn, a, ha, e, rfl⟩ := (nm2 2 F s).1 hs; exact ((h n hn).1 a ha).2 e hm
    · obtain ⟨n, hn, e, es⟩ := (nm1 1 F s).1 h1
      obtain ⟨m, hm, e3, es3⟩ := (nm1 3 F s).1 h3
      exact ((h n hn).2.2.1 e).2 m hm e3 (es3.trans es.symm)
theorem told_bodies : ∀ (F : SF) (d : Nat), toldS d F = true → bodies F
  | .nil, _, _ => trivial
  | .node p q h l r, d, e => by
    rw [toldS_node, Bool.and_eq_true] at e
    obtain ⟨e1, e2⟩ := e
    unfold toldSt at e1
    rw [Bool.and_eq_true] at e1
    refine ⟨fun hk => ?_, ?_, told_bodies r d e2⟩
    · rw [if_neg hk] at e1
      have := of_decide_eq_true e1.2
      cases l with
      | nil => rfl
      | node => simp [slen] at this
    · by_cases hk : h.k = 3
      · rw [if_pos hk] at e1
        unfold bodyTold at e1
        simp only [Bool.and_eq_true] at e1
        exact told_bodies l (d - 1) e1.2.2.2.2
      · rw [if_neg hk] at e1
        have := of_decide_eq_true e1.2
        cases l with
        | nil => trivial
        | node => simp [slen] at this
theorem stmts_told : ∀ (F : SF), stmtsB F = true → toldS 3 F = true
  | .nil, _ => rfl
  | .node p q h l r, e => by
    simp only [stmtsB, Bool.and_eq_true, stmtOk] at e
    rw [toldS_node, Bool.and_eq_true]
    exact ⟨e.1.1, stmts_told r e.2⟩
theorem nice_of : ∀ (F : SF), ssize F ≤ 1048576 → nice F := fun F hS a ha => by
  have key : ∀ (G : SF), a ∈ sall G → hsize a.1 + 1 ≤ ssize G := fun G => by
    induction G with
    | nil => intro hx; simp [sall] at hx
    | node _ _ h' l' r' ih1 ih2 =>
      intro hx
      simp only [sall, List.mem_cons, List.mem_append] at hx
      simp only [ssize]
      rcases hx with rfl | hx | hx
      · show hsize h' + 1 ≤ _; omega
      · have := ih1 hx; omega
      · have := ih2 hx; omega
  have h1 := key F ha
  refine ⟨by simp only [hsize] at h1; omega, ?_, fun e he => Nat.le_trans (hall_small a.1 e he) (by omega)⟩
  rw [hall_len]
  have := enodes_le a.1.x1.l; have := enodes_le a.1.x2.l; have := enodes_le a.1.x3.l; have := enodes_le a.1.x4.l
  simp only [hsize, xsize] at h1
  omega
end Go.Proofs.YtfoghiminlbdaaaGreat
