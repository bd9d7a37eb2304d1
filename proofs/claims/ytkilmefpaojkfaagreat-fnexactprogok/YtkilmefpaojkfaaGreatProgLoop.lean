/-
  The contracts of the landed code's loopFits and stmtFits, bodyFits of what stands under the statement being known.
-/
import Derived.Test.YtkilmefpaojkfaaGreatProgFit
namespace Go.Proofs.YtkilmefpaojkfaaGreat
open Go.RowKit Go.Lib Go.Maps Go.Sort Go.WideMaps
set_option linter.unusedSimpArgs false
set_option linter.unusedVariables false

def asInt (R : ByteArray → Bool) : ByteArray → Int := fun s => if R s = true then 1 else 0
def withS (R : ByteArray → Bool) (s : ByteArray) : ByteArray → Bool := fun t => R t || decide (t = s)
/-- All names are small. -/
def nice (F : SF) : Prop := ∀ a ∈ sall F, a.1.s.size ≤ 10000000 ∧ (hall a.1).length ≤ 10000000 ∧ ∀ e ∈ hall a.1, e.1.s.size ≤ 10000000
/-- What bodyFits says of a row, behind the statements ps. -/
def FitsTo (w : World) (tb n : Nat) (arrs : List ByteArray) (qs : List SN) (R : ByteArray → Bool) (P : Prop) (e : Ending) (w' : World) : Prop :=
  ∃ b : Bool, e = .returned (.bool b) ∧ (b = true ↔ P) ∧ Gap tb (tb + 2) w w' ∧ Rd w' (tb + 1) n (asInt R) ∧ (b = true → ∃ T', Rd w' tb n T' ∧ TT arrs qs T')
def BodyC (F : SF) : Prop := ∀ (w0 w : World) (v : Value) (tb n : Nat) (arrs : List ByteArray) (ps : List SN) (T : ByteArray → Int) (R : ByteArray → Bool), SV w0 0 F v → w0.heap.size ≤ tb → Below w0.heap.size w0 w → Rd w tb n T → Rd w (tb + 1) n (asInt R) →
  n + 2 * snodes F ≤ 1000000 → nice F → bodies F → TT arrs ps T → AllFit arrs ps → Calls Tryz.prog 39 #[nam tb (tb + 1), v] w (FitsTo w tb (n + 2 * snodes F) arrs (ps ++ sall F) R (AllFit arrs (ps ++ sall F) ∧ nestP F R))
theorem gap_one {w w' : World} {b lo hi : Nat} (hg : w.grownBy w' (some b)) (h1 : lo ≤ b) (h2 : b < hi) : Gap lo hi w w' :=
  ⟨hg.os, hg.tape, hg.output, hg.size, fun k hk hc => hg.block k hk (fun e => by injection e with e; omega)⟩
theorem range_gap {w w' : World} {lo hi b : Nat} {cs : List Value} (h : w.rangeAt b 0 cs) (hg : Gap lo hi w w') (hb : hi ≤ b) : w'.rangeAt b 0 cs := fun j u hj => by
  have h1 := h j u hj
  have := hg.block b (lt_of_cellA h1) (.inr hb)
  unfold World.cell? at h1 ⊢; simp only [this]; exact h1
theorem rng18 {w : World} {b : Nat} {h : SH} {v1 v2 v3 v4 v : Value} (r : w.rangeAt b 0 (scells h v1 v2 v3 v4 v)) : w.cell? ⟨b, 18, Option.none⟩ = some v := r 18 _ rfl
theorem rngS {w : World} {b : Nat} {h : SH} {v1 v2 v3 v4 v : Value} (r : w.rangeAt b 0 (scells h v1 v2 v3 v4 v)) : w.cell? ⟨b, 1, Option.none⟩ = some (.string h.s) := r 1 _ rfl
theorem rngK {w : World} {b : Nat} {h : SH} {v1 v2 v3 v4 v : Value} (r : w.rangeAt b 0 (scells h v1 v2 v3 v4 v)) : w.cell? ⟨b, 0, Option.none⟩ = some (.int .i64 h.k) := r 0 _ rfl
set_option maxHeartbeats 2000000 in
set_option maxRecDepth 100000 in
theorem loopFits_in (h : SH) (v1 v2 v3 v4 v : Value) (hs : h.s.size ≤ 10000000) (w : World) (tb n : Nat) (R : ByteArray → Bool) (hA : Rd w (tb + 1) n (asInt R)) (hin : R h.s = true) :
    Calls Tryz.prog 93 #[nam tb (tb + 1), sagg h v1 v2 v3 v4 v] w fun e w' => e = .returned (.bool false) ∧ Below w.heap.size w w' := by
  obtain ⟨D, hown, hat0⟩ := hA
  have HO := Lib.hid ((hown.alloc (.cells #[.map (some tb), .map (some (tb + 1))] 68)).alloc (.cells (sarr h v1 v2 v3 v4 v) 57))
  have B := Lib.hid ((alloc_below w (.cells #[.map (some tb), .map (some (tb + 1))] 68)).alloc (by simp) (.cells (sarr h v1 v2 v3 v4 v) 57))
  have HA := Lib.hid ((hat0 h.s).trans (show _ = DataW.lit (.int .i64 1) by unfold asInt; rw [if_pos hin]))
  have hkey := keyS hs
  clear hown hat0 hin
  go_enter Tryz.func93, Tryz.ntmps93
  go_wp2_with (at_lookup; refine wpList_lookup_own_int _ rfl _ _ 51 rfl 9 3 .i64 keyLaw Tryz.underlying51 Tryz.underlying3 (zeroInt _) (tb + 1) n D rfl HO.out _ _ rfl hkey ?_; intro c hat hwc; obtain rfl := lit_int HA.out hat)
  go_ret
  exact ⟨rfl, B.out⟩
set_option maxHeartbeats 4000000 in
set_option maxRecDepth 100000 in
theorem loopFits_out (h : SH) (l : SF) (ih : BodyC l) (v1 v2 v3 v4 v : Value) (hs : h.s.size ≤ 10000000) (w0 w : World) (tb n : Nat) (arrs : List ByteArray) (ps : List SN) (T : ByteArray → Int) (R : ByteArray → Bool) (hv : SV w0 0 l v) (h0 : w0.heap.size ≤ tb) (hb0 : Below w0.heap.size w0 w)
    (hT : Rd w tb n T) (hA : Rd w (tb + 1) n (asInt R)) (hn : n + 1 + 2 * snodes l ≤ 1000000) (hni : nice l) (hbo : bodies l) (hTT : TT arrs ps T) (hAF : AllFit arrs ps) (hin : R h.s = false) :
    Calls Tryz.prog 93 #[nam tb (tb + 1), sagg h v1 v2 v3 v4 v] w (FitsTo w tb (n + 1 + 2 * snodes l) arrs (ps ++ sall l) R (AllFit arrs (ps ++ sall l) ∧ nestP l (withS R h.s))) := by
  have hltA := hA.lt
  have hltT := hT.lt
  have HT := Lib.hid hT
  obtain ⟨D, hown, hat0⟩ := hA
  obtain ⟨r0, r1, rb⟩ := two_blk w #[.map (some tb), .map (some (tb + 1))] (sarr h v1 v2 v3 v4 v) 68 57
  have HO := Lib.hid ((hown.alloc (.cells #[.map (some tb), .map (some (tb + 1))] 68)).alloc (.cells (sarr h v1 v2 v3 v4 v) 57))
  have RR := Lib.hid (And.intro r0 (And.intro r1 rb))
  have HA := Lib.hid ((hat0 h.s).trans (show _ = DataW.lit (.int .i64 0) by unfold asInt; rw [hin]; rfl))
  have HA0 := Lib.hid hat0
  have hD := Lib.hid (hown.tidy keyLaw).isMap
  have hkey := keyS hs
  have hnI : (n : Int) + 1 ≤ 1000000 := by omega
  have HV := Lib.hid hv
  have HM := Lib.hid (And.intro hni (And.intro hbo (And.intro hTT hAF)))
  have HB0 := Lib.hid hb0
  have Hin := Lib.hid hin
  have Hih := Lib.hid ih
  obtain ⟨va, vc, rfl⟩ := hv.shape
  clear hown hat0 r0 r1 rb hT hni hbo hTT hAF hv hb0 hin ih
  go_enter Tryz.func93, Tryz.ntmps93
  go_wp2_with (first
    | (at_lookup; refine wpList_lookup_own_int _ rfl _ _ 51 rfl 9 3 .i64 keyLaw Tryz.underlying51 Tryz.underlying3 (zeroInt _) (tb + 1) n D rfl HO.out _ _ rfl hkey ?_; intro c hat hwc; obtain rfl := lit_int HA.out hat; clear hat hwc)
    | (at_mapUpdate; refine wpList_mapUpdate_own _ rfl _ _ _ 51 rfl 9 3 keyLaw Tryz.underlying51 _ (tb + 1) n _ rfl HO.out (by unfold maxLen; omega) _ _ _ rfl rfl hkey _ [] (plainElem_int (a := 1) Tryz.underlying3 (by decide)) ?_)
    | go_in)
  intro w1 ho1 hg1
  have G1 := Lib.hid (gap_one hg1 (Nat.le_succ tb) (by omega : tb + 1 < tb + 2))
  have r0 := range_gap RR.out.1 G1.out (by omega)
  have r1 := range_gap RR.out.2.1 G1.out (by omega)
  have GW := Lib.hid ((Gap.of tb (tb + 2) RR.out.2.2).trans G1.out)
  have hRT1 : Rd w1 tb n T := (HT.out.below RR.out.2.2).block (hg1.block _ (Nat.lt_of_lt_of_le hltT RR.out.2.2.size) (fun e => by injection e with e; omega))
  have hRA1 : Rd w1 (tb + 1) (n + 1) (asInt (withS R h.s)) := Rd.as ⟨_, ho1, rd_put hD.out HA0.out h.s 1⟩ (fun t => by
    unfold asInt withS
    by_cases e : t = h.s
    · rw [if_pos e]; simp [e]
    · rw [if_neg e]; simp [e])
  have RT1 := Lib.hid (And.intro (hRT1.more (Nat.le_succ _)) hRA1)
  have R1 := Lib.hid (And.intro r0 r1)
  have q0 := r0 0 _ rfl
  have q1 := r0 1 _ rfl
  have q18 := rng18 r1
  clear ho1 hg1 hRT1 hRA1 r0 r1
  go_wp2_with fail
  refine (Hih.out w0 w1 _ tb (n + 1) arrs ps T (withS R h.s) HV.out h0 (HB0.out.trans (GW.out.below h0 HB0.out.size)) RT1.out.1 RT1.out.2 (by omega) HM.out.1 HM.out.2.1 HM.out.2.2.1 HM.out.2.2.2).mono ?_
  rintro e w2 ⟨b, rfl, hb, hg2, hA2, hT2⟩
  obtain ⟨D2, hown2, hat2⟩ := hA2
  have HO2 := Lib.hid hown2
  have HA2 := Lib.hid hat2
  have r0 := range_gap R1.out.1 hg2 (by omega)
  have r1 := range_gap R1.out.2 hg2 (by omega)
  have p1 := r0 1 _ rfl
  have pS := rngS r1
  have G2 := Lib.hid (GW.out.trans hg2)
  have HT2 := Lib.hid (And.intro hb hT2)
  clear hown2 hat2 hb hT2 hg2 r0 r1 q0 q1 q18 RT1 R1
  go_wp2_with (first
    | (at_delete; refine wpList_delete_own _ rfl _ _ 51 9 rfl 3 keyLaw Tryz.underlying51 _ (tb + 1) _ D2 rfl HO2.out _ _ rfl hkey ?_)
    | go_in)
  intro w3 ho3 ht3
  have G3 := Lib.hid (gap_one (lo := tb) (hi := tb + 2) ht3.grown (Nat.le_succ tb) (by omega))
  have hblk := Lib.hid (fun (k : Nat) (hk : k < w2.heap.size) (hne : k ≠ tb + 1) => ht3.grown.block k hk (fun e => by injection e with e; exact hne e))
  have RA3 : Hid (Rd w3 (tb + 1) (n + 1 + 2 * snodes l) (asInt R)) := Lib.hid (Rd.as ⟨_, ho3, rd_del HA2.out h.s⟩ (fun t => by
    unfold asInt withS
    by_cases e : t = h.s
    · rw [if_pos e, e, Hin.out]; rfl
    · rw [if_neg e]; simp [e]))
  clear ho3 ht3 p1 pS
  go_wp2
  go_ret
  refine ⟨b, rfl, HT2.out.1, G2.out.trans G3.out, RA3.out, fun hbt => ?_⟩
  obtain ⟨T', t1, t2⟩ := HT2.out.2 hbt
  exact ⟨T', t1.block (hblk.out _ t1.lt (by omega)), t2⟩
end Go.Proofs.YtkilmefpaojkfaaGreat
