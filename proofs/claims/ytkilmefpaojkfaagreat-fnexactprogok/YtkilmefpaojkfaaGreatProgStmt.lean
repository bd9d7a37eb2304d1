/-
  The contract of the landed code's stmtFits.
-/
import Derived.Test.YtkilmefpaojkfaaGreatProgLoop
import Derived.Test.YtkilmefpaojkfaaGreatAstBody
namespace Go.Proofs.YtkilmefpaojkfaaGreat
open Go.RowKit Go.Lib Go.Maps Go.Sort Go.WideMaps
set_option linter.unusedSimpArgs false
set_option linter.unusedVariables false

theorem kne {h : SH} {a b : Int} (hk : h.k = a) (hab : ¬ a = b) : ¬ h.k = b := fun e => hab (hk.symm.trans e)
theorem snoc_cons {α : Type} (ps : List α) (a : α) (l : List α) : (ps ++ [a]) ++ l = ps ++ a :: l := by simp
/-- What is asked of a statement and of what stands under it. -/
def stmtP (arrs : List ByteArray) (ps : List SN) (R : ByteArray → Bool) (h : SH) (l : SF) : Prop := AllFit arrs (ps ++ (h, l) :: sall l) ∧ (h.k = 3 → R h.s = false ∧ nestP l (withS R h.s))
/-- Where nothing stands under it. -/
theorem stmtP_nil {arrs : List ByteArray} {ps : List SN} {R : ByteArray → Bool} {h : SH} {T : ByteArray → Int} (hTT : TT arrs ps T) (hAF : AllFit arrs ps) (hex : expFits arrs h) (h3 : ¬ h.k = 3) :
    stmtP arrs ps R h .nil ↔ ((h.k = 1 → T h.s = 0 ∨ T h.s = 2) ∧ (h.k = 2 → T h.s = 1)) := by
  unfold stmtP
  show AllFit arrs (ps ++ [(h, .nil)]) ∧ _ ↔ _
  rw [← step_iff hTT hAF h .nil]
  constructor
  · rintro ⟨⟨_, a, b, _⟩, _⟩; exact ⟨a, b⟩
  · rintro ⟨a, b⟩; exact ⟨⟨hex, a, b, fun e => absurd e h3⟩, fun e => absurd e h3⟩
theorem stmtP_loop {arrs : List ByteArray} {ps : List SN} {R : ByteArray → Bool} {h : SH} {l : SF} {T : ByteArray → Int} (hTT : TT arrs ps T) (hAF : AllFit arrs ps) (hex : expFits arrs h) (h3 : h.k = 3) :
    stmtP arrs ps R h l → (T h.s = 0 ∨ T h.s = 3) ∧ R h.s = false := by
  rintro ⟨a, b⟩
  have a' : AllFit arrs (ps ++ [(h, l)]) := by rw [← snoc_cons] at a; exact a.left
  exact ⟨((step_iff hTT hAF h l).2 a').2.2.2 h3, (b h3).1⟩
theorem stepFits_loop {arrs : List ByteArray} {h : SH} {T : ByteArray → Int} (hex : expFits arrs h) (h3 : h.k = 3) (ht : T h.s = 0 ∨ T h.s = 3) : stepFits arrs T h := ⟨hex, fun e => by omega, fun e => by omega, fun _ => ht⟩
set_option maxHeartbeats 4000000 in
set_option maxRecDepth 100000 in
theorem stmtFits_1 (ss : ByteArray) (x1 x2 x3 x4 : X) (l : SF) (ih : BodyC l) (v1 v2 v3 v4 v : Value) (hs : ss.size ≤ 10000000) (w0 w : World) (tb n : Nat) (arrs : List ByteArray) (ps : List SN) (T : ByteArray → Int) (R : ByteArray → Bool) (hv : SV w0 0 l v) (h0 : w0.heap.size ≤ tb) (hb0 : Below w0.heap.size w0 w)
    (hT : Rd w tb n T) (hA : Rd w (tb + 1) n (asInt R)) (hn : n + 2 + 2 * snodes l ≤ 1000000) (hni : nice l) (hbo : bodies l) (hbk : (⟨1, ss, x1, x2, x3, x4⟩ : SH).k ≠ 3 → l = .nil) (hTT : TT arrs ps T) (hAF : AllFit arrs ps) (hex : expFits arrs (⟨1, ss, x1, x2, x3, x4⟩ : SH)) :
    Calls Tryz.prog 64 #[nam tb (tb + 1), sagg (⟨1, ss, x1, x2, x3, x4⟩ : SH) v1 v2 v3 v4 v] w (FitsTo w tb (n + 2 + 2 * snodes l) arrs (ps ++ ((⟨1, ss, x1, x2, x3, x4⟩ : SH), l) :: sall l) R (stmtP arrs ps R (⟨1, ss, x1, x2, x3, x4⟩ : SH) l)) := by
  have h1 : (⟨1, ss, x1, x2, x3, x4⟩ : SH).k = 1 := rfl
  obtain ⟨r0, r1, rb⟩ := two_blk w #[.map (some tb), .map (some (tb + 1))] (sarr (⟨1, ss, x1, x2, x3, x4⟩ : SH) v1 v2 v3 v4 v) 68 57
  have hltT := hT.lt
  have hltA := hA.lt
  have HR := Lib.hid (And.intro (hT.below rb) (hA.below rb))
  have RR := Lib.hid (And.intro r0 (And.intro r1 rb))
  have q0 : ((w.alloc (.cells #[.map (some tb), .map (some (tb + 1))] 68)).alloc (.cells (sarr (⟨1, ss, x1, x2, x3, x4⟩ : SH) v1 v2 v3 v4 v) 57)).cell? ⟨w.heap.size, 0, Option.none⟩ = some (.map (some tb)) := r0 0 _ rfl
  have q1 : ((w.alloc (.cells #[.map (some tb), .map (some (tb + 1))] 68)).alloc (.cells (sarr (⟨1, ss, x1, x2, x3, x4⟩ : SH) v1 v2 v3 v4 v) 57)).cell? ⟨w.heap.size, 1, Option.none⟩ = some (.map (some (tb + 1))) := r0 1 _ rfl
  have qK : ((w.alloc (.cells #[.map (some tb), .map (some (tb + 1))] 68)).alloc (.cells (sarr (⟨1, ss, x1, x2, x3, x4⟩ : SH) v1 v2 v3 v4 v) 57)).cell? ⟨w.heap.size + 1, 0, Option.none⟩ = some (.int .i64 (⟨1, ss, x1, x2, x3, x4⟩ : SH).k) := rngK r1
  have qS : ((w.alloc (.cells #[.map (some tb), .map (some (tb + 1))] 68)).alloc (.cells (sarr (⟨1, ss, x1, x2, x3, x4⟩ : SH) v1 v2 v3 v4 v) 57)).cell? ⟨w.heap.size + 1, 1, Option.none⟩ = some (.string ss) := rngS r1
  clear r0 r1 rb hT hA
  obtain rfl := hbk (kne h1 (by omega))
  have HP := Lib.hid (stmtP_nil (R := R) hTT hAF hex (kne h1 (by omega)))
  obtain ⟨b, Hb⟩ : ∃ b, Hid (decide (T ss = 0 ∨ T ss = 2) = b) := ⟨_, rfl⟩
  have CB := Lib.hid (becomes_is tb (tb + 1) n T ss hs 2 (by omega) (by omega) b Hb.out _ HR.out.1)
  have HN := Lib.hid (fun (hf : T ss = 0 ∨ T ss = 2) => show TT arrs (ps ++ ((⟨1, ss, x1, x2, x3, x4⟩ : SH), .nil) :: sall .nil) (setT T ss 2) from by
    have := hTT.next (⟨1, ss, x1, x2, x3, x4⟩ : SH) .nil ⟨hex, fun _ => hf, fun e => absurd e (kne h1 (by omega)), fun e => absurd e (kne h1 (by omega))⟩
    unfold nextT at this; rw [if_pos h1] at this; exact this)
  have Hb1 := Lib.hid (show (b = true ↔ stmtP arrs ps R (⟨1, ss, x1, x2, x3, x4⟩ : SH) .nil) by
    rw [HP.out, ← Hb.out, decide_eq_true_iff]
    exact ⟨fun e => ⟨fun _ => e, fun e => absurd e (kne h1 (by omega))⟩, fun e => e.1 h1⟩)
  skip
  clear HP hTT hAF hex hbk ih
  go_enter Tryz.func64, Tryz.ntmps64
  go_wp2_with fail
  refine CB.out.mono ?_
  rintro e w1 ⟨rfl, hr1, hg1⟩
  have G := Lib.hid ((Gap.of tb (tb + 2) RR.out.2.2).trans (hg1.wider (Nat.le_refl _) (Nat.le_succ _)))
  have HR1 := Lib.hid hr1
  have HA1 := Lib.hid (HR.out.2.gap hg1 (.inr (Nat.le_refl _)))
  clear hr1 hg1 CB
  go_wp2
  go_ret
  refine ⟨b, rfl, Hb1.out, G.out, HA1.out.more (by omega), fun hbt => ⟨_, HR1.out.more (by omega), HN.out ?_⟩⟩
  rw [← Hb.out, decide_eq_true_iff] at hbt; exact hbt
set_option maxHeartbeats 4000000 in
set_option maxRecDepth 100000 in
theorem stmtFits_2 (ss : ByteArray) (x1 x2 x3 x4 : X) (l : SF) (ih : BodyC l) (v1 v2 v3 v4 v : Value) (hs : ss.size ≤ 10000000) (w0 w : World) (tb n : Nat) (arrs : List ByteArray) (ps : List SN) (T : ByteArray → Int) (R : ByteArray → Bool) (hv : SV w0 0 l v) (h0 : w0.heap.size ≤ tb) (hb0 : Below w0.heap.size w0 w)
    (hT : Rd w tb n T) (hA : Rd w (tb + 1) n (asInt R)) (hn : n + 2 + 2 * snodes l ≤ 1000000) (hni : nice l) (hbo : bodies l) (hbk : (⟨2, ss, x1, x2, x3, x4⟩ : SH).k ≠ 3 → l = .nil) (hTT : TT arrs ps T) (hAF : AllFit arrs ps) (hex : expFits arrs (⟨2, ss, x1, x2, x3, x4⟩ : SH)) :
    Calls Tryz.prog 64 #[nam tb (tb + 1), sagg (⟨2, ss, x1, x2, x3, x4⟩ : SH) v1 v2 v3 v4 v] w (FitsTo w tb (n + 2 + 2 * snodes l) arrs (ps ++ ((⟨2, ss, x1, x2, x3, x4⟩ : SH), l) :: sall l) R (stmtP arrs ps R (⟨2, ss, x1, x2, x3, x4⟩ : SH) l)) := by
  have h2 : (⟨2, ss, x1, x2, x3, x4⟩ : SH).k = 2 := rfl
  have h1 : ¬ (⟨2, ss, x1, x2, x3, x4⟩ : SH).k = 1 := kne h2 (by omega)
  obtain ⟨r0, r1, rb⟩ := two_blk w #[.map (some tb), .map (some (tb + 1))] (sarr (⟨2, ss, x1, x2, x3, x4⟩ : SH) v1 v2 v3 v4 v) 68 57
  have hltT := hT.lt
  have hltA := hA.lt
  have HR := Lib.hid (And.intro (hT.below rb) (hA.below rb))
  have RR := Lib.hid (And.intro r0 (And.intro r1 rb))
  have q0 : ((w.alloc (.cells #[.map (some tb), .map (some (tb + 1))] 68)).alloc (.cells (sarr (⟨2, ss, x1, x2, x3, x4⟩ : SH) v1 v2 v3 v4 v) 57)).cell? ⟨w.heap.size, 0, Option.none⟩ = some (.map (some tb)) := r0 0 _ rfl
  have q1 : ((w.alloc (.cells #[.map (some tb), .map (some (tb + 1))] 68)).alloc (.cells (sarr (⟨2, ss, x1, x2, x3, x4⟩ : SH) v1 v2 v3 v4 v) 57)).cell? ⟨w.heap.size, 1, Option.none⟩ = some (.map (some (tb + 1))) := r0 1 _ rfl
  have qK : ((w.alloc (.cells #[.map (some tb), .map (some (tb + 1))] 68)).alloc (.cells (sarr (⟨2, ss, x1, x2, x3, x4⟩ : SH) v1 v2 v3 v4 v) 57)).cell? ⟨w.heap.size + 1, 0, Option.none⟩ = some (.int .i64 (⟨2, ss, x1, x2, x3, x4⟩ : SH).k) := rngK r1
  have qS : ((w.alloc (.cells #[.map (some tb), .map (some (tb + 1))] 68)).alloc (.cells (sarr (⟨2, ss, x1, x2, x3, x4⟩ : SH) v1 v2 v3 v4 v) 57)).cell? ⟨w.heap.size + 1, 1, Option.none⟩ = some (.string ss) := rngS r1
  clear r0 r1 rb hT hA
  obtain rfl := hbk (kne h2 (by omega))
  have HP := Lib.hid (stmtP_nil (R := R) hTT hAF hex (kne h2 (by omega)))
  obtain ⟨b, Hb⟩ : ∃ b, Hid (decide (T ss = 1) = b) := ⟨_, rfl⟩
  have CB := Lib.hid (isArr_is tb (tb + 1) n T ss hs b Hb.out _ HR.out.1)
  have HN := Lib.hid (fun (hf : T ss = 1) => show TT arrs (ps ++ ((⟨2, ss, x1, x2, x3, x4⟩ : SH), .nil) :: sall .nil) T from by
    have := hTT.next (⟨2, ss, x1, x2, x3, x4⟩ : SH) .nil ⟨hex, fun e => absurd e (kne h2 (by omega)), fun _ => hf, fun e => absurd e (kne h2 (by omega))⟩
    unfold nextT at this; rw [if_neg h1, if_neg (kne h2 (by omega))] at this; exact this)
  have Hb1 := Lib.hid (show (b = true ↔ stmtP arrs ps R (⟨2, ss, x1, x2, x3, x4⟩ : SH) .nil) by
    rw [HP.out, ← Hb.out, decide_eq_true_iff]
    exact ⟨fun e => ⟨fun e1 => absurd e1 h1, fun _ => e⟩, fun e => e.2 h2⟩)
  skip
  clear HP hTT hAF hex hbk ih
  go_enter Tryz.func64, Tryz.ntmps64
  go_wp2_with fail
  refine CB.out.mono ?_
  rintro e w1 ⟨rfl, hb1⟩
  have G := Lib.hid (Gap.of tb (tb + 2) (RR.out.2.2.trans (hb1.mono RR.out.2.2.size)))
  have HR1 := Lib.hid (And.intro (HR.out.1.below hb1) (HR.out.2.below hb1))
  clear hb1 CB
  go_wp2
  go_ret
  refine ⟨b, rfl, Hb1.out, G.out, HR1.out.2.more (by omega), fun hbt => ⟨_, HR1.out.1.more (by omega), HN.out ?_⟩⟩
  rw [← Hb.out, decide_eq_true_iff] at hbt; exact hbt
set_option maxHeartbeats 4000000 in
set_option maxRecDepth 100000 in
theorem stmtFits_3 (ss : ByteArray) (x1 x2 x3 x4 : X) (l : SF) (ih : BodyC l) (v1 v2 v3 v4 v : Value) (hs : ss.size ≤ 10000000) (w0 w : World) (tb n : Nat) (arrs : List ByteArray) (ps : List SN) (T : ByteArray → Int) (R : ByteArray → Bool) (hv : SV w0 0 l v) (h0 : w0.heap.size ≤ tb) (hb0 : Below w0.heap.size w0 w)
    (hT : Rd w tb n T) (hA : Rd w (tb + 1) n (asInt R)) (hn : n + 2 + 2 * snodes l ≤ 1000000) (hni : nice l) (hbo : bodies l) (hbk : (⟨3, ss, x1, x2, x3, x4⟩ : SH).k ≠ 3 → l = .nil) (hTT : TT arrs ps T) (hAF : AllFit arrs ps) (hex : expFits arrs (⟨3, ss, x1, x2, x3, x4⟩ : SH)) :
    Calls Tryz.prog 64 #[nam tb (tb + 1), sagg (⟨3, ss, x1, x2, x3, x4⟩ : SH) v1 v2 v3 v4 v] w (FitsTo w tb (n + 2 + 2 * snodes l) arrs (ps ++ ((⟨3, ss, x1, x2, x3, x4⟩ : SH), l) :: sall l) R (stmtP arrs ps R (⟨3, ss, x1, x2, x3, x4⟩ : SH) l)) := by
  have h3 : (⟨3, ss, x1, x2, x3, x4⟩ : SH).k = 3 := rfl
  have h1 : ¬ (⟨3, ss, x1, x2, x3, x4⟩ : SH).k = 1 := kne h3 (by omega)
  have h2 : ¬ (⟨3, ss, x1, x2, x3, x4⟩ : SH).k = 2 := kne h3 (by omega)
  obtain ⟨r0, r1, rb⟩ := two_blk w #[.map (some tb), .map (some (tb + 1))] (sarr (⟨3, ss, x1, x2, x3, x4⟩ : SH) v1 v2 v3 v4 v) 68 57
  have hltT := hT.lt
  have hltA := hA.lt
  have HR := Lib.hid (And.intro (hT.below rb) (hA.below rb))
  have RR := Lib.hid (And.intro r0 (And.intro r1 rb))
  have q0 : ((w.alloc (.cells #[.map (some tb), .map (some (tb + 1))] 68)).alloc (.cells (sarr (⟨3, ss, x1, x2, x3, x4⟩ : SH) v1 v2 v3 v4 v) 57)).cell? ⟨w.heap.size, 0, Option.none⟩ = some (.map (some tb)) := r0 0 _ rfl
  have q1 : ((w.alloc (.cells #[.map (some tb), .map (some (tb + 1))] 68)).alloc (.cells (sarr (⟨3, ss, x1, x2, x3, x4⟩ : SH) v1 v2 v3 v4 v) 57)).cell? ⟨w.heap.size, 1, Option.none⟩ = some (.map (some (tb + 1))) := r0 1 _ rfl
  have qK : ((w.alloc (.cells #[.map (some tb), .map (some (tb + 1))] 68)).alloc (.cells (sarr (⟨3, ss, x1, x2, x3, x4⟩ : SH) v1 v2 v3 v4 v) 57)).cell? ⟨w.heap.size + 1, 0, Option.none⟩ = some (.int .i64 (⟨3, ss, x1, x2, x3, x4⟩ : SH).k) := rngK r1
  have qS : ((w.alloc (.cells #[.map (some tb), .map (some (tb + 1))] 68)).alloc (.cells (sarr (⟨3, ss, x1, x2, x3, x4⟩ : SH) v1 v2 v3 v4 v) 57)).cell? ⟨w.heap.size + 1, 1, Option.none⟩ = some (.string ss) := rngS r1
  clear r0 r1 rb hT hA
  obtain ⟨b, Hb⟩ : ∃ b, Hid (decide (T ss = 0 ∨ T ss = 3) = b) := ⟨_, rfl⟩
  have CB := Lib.hid (becomes_is tb (tb + 1) n T ss hs 3 (by omega) (by omega) b Hb.out _ HR.out.1)
  have HPL := Lib.hid (stmtP_loop (R := R) (l := l) hTT hAF hex h3)
  have HS := Lib.hid (fun ht => stepFits_loop (T := T) hex h3 ht)
  have HN := Lib.hid (fun (ht : T ss = 0 ∨ T ss = 3) => show TT arrs (ps ++ [((⟨3, ss, x1, x2, x3, x4⟩ : SH), l)]) (setT T ss 3) from by
    have := hTT.next (⟨3, ss, x1, x2, x3, x4⟩ : SH) l (HS.out ht)
    unfold nextT at this; rw [if_neg h1, if_pos h3] at this; exact this)
  have HF := Lib.hid (fun (ht : T ss = 0 ∨ T ss = 3) => (step_iff hTT hAF (⟨3, ss, x1, x2, x3, x4⟩ : SH) l).1 (HS.out ht))
  have q18 : ∀ w', Gap tb (tb + 2) ((w.alloc (.cells #[.map (some tb), .map (some (tb + 1))] 68)).alloc (.cells (sarr (⟨3, ss, x1, x2, x3, x4⟩ : SH) v1 v2 v3 v4 v) 57)) w' → w'.rangeAt w.heap.size 0 [.map (some tb), .map (some (tb + 1))] ∧ w'.rangeAt (w.heap.size + 1) 0 (scells (⟨3, ss, x1, x2, x3, x4⟩ : SH) v1 v2 v3 v4 v) := fun w' hg => ⟨range_gap RR.out.1 hg (by omega), range_gap RR.out.2.1 hg (by omega)⟩
  have H18 := Lib.hid q18
  skip
  have Hih := Lib.hid ih
  have HVV := Lib.hid (And.intro hv hb0)
  have HM := Lib.hid (And.intro hni hbo)
  clear hTT hAF hex hbk q18 HS ih hv hb0
  go_enter Tryz.func64, Tryz.ntmps64
  go_wp2_with fail
  refine CB.out.mono ?_
  rintro e w1 ⟨rfl, hr1, hg1⟩
  have hg1' := hg1.wider (Nat.le_refl _) (Nat.le_succ (tb + 1))
  have G := Lib.hid ((Gap.of tb (tb + 2) RR.out.2.2).trans hg1')
  have HR1 := Lib.hid hr1
  have HA1 := Lib.hid (HR.out.2.gap hg1 (.inr (Nat.le_refl _)))
  obtain ⟨p0, p1⟩ := H18.out w1 hg1'
  have PP := Lib.hid (And.intro p0 p1)
  have m0 := p0 0 _ rfl
  have m1 := p0 1 _ rfl
  clear hr1 hg1 hg1' CB p0 p1
  cases b with
  | false =>
    have hnt := Lib.hid (of_decide_eq_false Hb.out)
    go_wp2
    go_ret
    exact ⟨false, rfl, ⟨fun e => (by cases e), fun e => absurd (HPL.out e).1 hnt.out⟩, G.out, HA1.out.more (by omega), fun e => by cases e⟩
  | true =>
    have hyt := Lib.hid (of_decide_eq_true Hb.out)
    cases hin : R ss with
    | true =>
      have CL := Lib.hid (loopFits_in (⟨3, ss, x1, x2, x3, x4⟩ : SH) v1 v2 v3 v4 v hs w1 tb n R HA1.out hin)
      have Hin := Lib.hid hin
      clear hin
      go_wp2_with (refine load_if (by rfl) 57 _ rfl (w.heap.size + 1) 0 rfl _ _ PP.out.2 Tryz.underlying57 rfl sizeIS ?_)
      refine CL.out.mono ?_
      rintro e w2 ⟨rfl, hb2⟩
      have G2 := Lib.hid (G.out.trans (Gap.of tb (tb + 2) hb2))
      have HA2 := Lib.hid (HA1.out.below hb2)
      clear hb2 CL m0 m1
      go_wp2
      go_ret
      exact ⟨false, rfl, ⟨fun e => (by cases e), fun e => by have := (HPL.out e).2; rw [Hin.out] at this; cases this⟩, G2.out, HA2.out.more (by omega), fun e => by cases e⟩
    | false =>
      have CL := Lib.hid (loopFits_out (⟨3, ss, x1, x2, x3, x4⟩ : SH) l Hih.out v1 v2 v3 v4 v hs w0 w1 tb (n + 1) arrs (ps ++ [((⟨3, ss, x1, x2, x3, x4⟩ : SH), l)]) (setT T ss 3) R HVV.out.1 h0 (HVV.out.2.trans (G.out.below h0 HVV.out.2.size)) HR1.out (HA1.out.more (Nat.le_succ _)) (by omega) HM.out.1 HM.out.2 (HN.out hyt.out) (HF.out hyt.out) hin)
      have Hin := Lib.hid hin
      clear hin
      go_wp2_with (refine load_if (by rfl) 57 _ rfl (w.heap.size + 1) 0 rfl _ _ PP.out.2 Tryz.underlying57 rfl sizeIS ?_)
      refine CL.out.mono ?_
      rintro e w2 ⟨b, rfl, hb, hg2, hA2, hT2⟩
      have RES := Lib.hid (And.intro hb (And.intro (G.out.trans hg2) (And.intro hA2 hT2)))
      clear hb hg2 hA2 hT2 CL m0 m1
      go_wp2
      go_ret
      have e2 : n + 1 + 1 + 2 * snodes l = n + 2 + 2 * snodes l := by omega
      obtain ⟨x1, x2, x3, x4⟩ := RES.out
      rw [snoc_cons] at x1 x4
      rw [e2] at x3 x4
      exact ⟨b, rfl, x1.trans ⟨fun e => ⟨e.1, fun _ => ⟨Hin.out, e.2⟩⟩, fun e => ⟨e.1, (e.2 rfl).2⟩⟩, x2, x3, x4⟩
set_option maxHeartbeats 4000000 in
set_option maxRecDepth 100000 in
theorem stmtFits_0 (h : SH) (l : SF) (ih : BodyC l) (v1 v2 v3 v4 v : Value) (hs : h.s.size ≤ 10000000) (w0 w : World) (tb n : Nat) (arrs : List ByteArray) (ps : List SN) (T : ByteArray → Int) (R : ByteArray → Bool) (hv : SV w0 0 l v) (h0 : w0.heap.size ≤ tb) (hb0 : Below w0.heap.size w0 w)
    (hT : Rd w tb n T) (hA : Rd w (tb + 1) n (asInt R)) (hn : n + 2 + 2 * snodes l ≤ 1000000) (hni : nice l) (hbo : bodies l) (h1 : ¬ h.k = 1) (h2 : ¬ h.k = 2) (h3 : ¬ h.k = 3) (hbk : h.k ≠ 3 → l = .nil) (hTT : TT arrs ps T) (hAF : AllFit arrs ps) (hex : expFits arrs h) :
    Calls Tryz.prog 64 #[nam tb (tb + 1), sagg h v1 v2 v3 v4 v] w (FitsTo w tb (n + 2 + 2 * snodes l) arrs (ps ++ (h, l) :: sall l) R (stmtP arrs ps R h l)) := by
  obtain ⟨r0, r1, rb⟩ := two_blk w #[.map (some tb), .map (some (tb + 1))] (sarr h v1 v2 v3 v4 v) 68 57
  have hltT := hT.lt
  have hltA := hA.lt
  have HR := Lib.hid (And.intro (hT.below rb) (hA.below rb))
  have RR := Lib.hid (And.intro r0 (And.intro r1 rb))
  have q0 : ((w.alloc (.cells #[.map (some tb), .map (some (tb + 1))] 68)).alloc (.cells (sarr h v1 v2 v3 v4 v) 57)).cell? ⟨w.heap.size, 0, Option.none⟩ = some (.map (some tb)) := r0 0 _ rfl
  have q1 : ((w.alloc (.cells #[.map (some tb), .map (some (tb + 1))] 68)).alloc (.cells (sarr h v1 v2 v3 v4 v) 57)).cell? ⟨w.heap.size, 1, Option.none⟩ = some (.map (some (tb + 1))) := r0 1 _ rfl
  have qK : ((w.alloc (.cells #[.map (some tb), .map (some (tb + 1))] 68)).alloc (.cells (sarr h v1 v2 v3 v4 v) 57)).cell? ⟨w.heap.size + 1, 0, Option.none⟩ = some (.int .i64 h.k) := rngK r1
  have qS : ((w.alloc (.cells #[.map (some tb), .map (some (tb + 1))] 68)).alloc (.cells (sarr h v1 v2 v3 v4 v) 57)).cell? ⟨w.heap.size + 1, 1, Option.none⟩ = some (.string h.s) := rngS r1
  clear r0 r1 rb hT hA
  obtain rfl := hbk h3
  have HP := Lib.hid (stmtP_nil (R := R) hTT hAF hex h3)
  have HN := Lib.hid (show TT arrs (ps ++ (h, .nil) :: sall .nil) T from by
    have := hTT.next h .nil ⟨hex, fun e => absurd e h1, fun e => absurd e h2, fun e => absurd e h3⟩
    unfold nextT at this; rw [if_neg h1, if_neg h3] at this; exact this)
  have Hb1 := Lib.hid (show stmtP arrs ps R h .nil from HP.out.2 ⟨fun e => absurd e h1, fun e => absurd e h2⟩)
  have e1 := int_ne h1
  have e2 := int_ne h2
  have e3 := int_ne h3
  have G := Lib.hid (Gap.of tb (tb + 2) RR.out.2.2)
  clear HP hTT hAF hex hbk ih
  go_enter Tryz.func64, Tryz.ntmps64
  go_wp2
  go_ret
  exact ⟨true, rfl, ⟨fun _ => Hb1.out, fun _ => rfl⟩, G.out, HR.out.2.more (by omega), fun _ => ⟨_, HR.out.1.more (by omega), HN.out⟩⟩
set_option maxHeartbeats 4000000 in
set_option maxRecDepth 100000 in
theorem stmtFits_is (h : SH) (l : SF) (ih : BodyC l) (v1 v2 v3 v4 v : Value) (hs : h.s.size ≤ 10000000) (w0 w : World) (tb n : Nat) (arrs : List ByteArray) (ps : List SN) (T : ByteArray → Int) (R : ByteArray → Bool) (hv : SV w0 0 l v) (h0 : w0.heap.size ≤ tb) (hb0 : Below w0.heap.size w0 w)
    (hT : Rd w tb n T) (hA : Rd w (tb + 1) n (asInt R)) (hn : n + 2 + 2 * snodes l ≤ 1000000) (hni : nice l) (hbo : bodies l) (hbk : h.k ≠ 3 → l = .nil) (hTT : TT arrs ps T) (hAF : AllFit arrs ps) (hex : expFits arrs h) :
    Calls Tryz.prog 64 #[nam tb (tb + 1), sagg h v1 v2 v3 v4 v] w (FitsTo w tb (n + 2 + 2 * snodes l) arrs (ps ++ (h, l) :: sall l) R (stmtP arrs ps R h l)) := by
  by_cases h1 : h.k = 1
  · obtain ⟨kk, ss, x1, x2, x3, x4⟩ := h
    obtain rfl : kk = 1 := h1
    exact stmtFits_1 ss x1 x2 x3 x4 l ih v1 v2 v3 v4 v hs w0 w tb n arrs ps T R hv h0 hb0 hT hA hn hni hbo hbk hTT hAF hex
  · by_cases h2 : h.k = 2
    · obtain ⟨kk, ss, x1, x2, x3, x4⟩ := h
      obtain rfl : kk = 2 := h2
      exact stmtFits_2 ss x1 x2 x3 x4 l ih v1 v2 v3 v4 v hs w0 w tb n arrs ps T R hv h0 hb0 hT hA hn hni hbo hbk hTT hAF hex
    · by_cases h3 : h.k = 3
      · obtain ⟨kk, ss, x1, x2, x3, x4⟩ := h
        obtain rfl : kk = 3 := h3
        exact stmtFits_3 ss x1 x2 x3 x4 l ih v1 v2 v3 v4 v hs w0 w tb n arrs ps T R hv h0 hb0 hT hA hn hni hbo hbk hTT hAF hex
      · exact stmtFits_0 h l ih v1 v2 v3 v4 v hs w0 w tb n arrs ps T R hv h0 hb0 hT hA hn hni hbo h1 h2 h3 hbk hTT hAF hex
end Go.Proofs.YtkilmefpaojkfaaGreat
