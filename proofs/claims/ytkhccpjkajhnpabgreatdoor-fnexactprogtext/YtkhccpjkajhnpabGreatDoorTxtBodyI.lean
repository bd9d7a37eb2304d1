/-
  The contracts of the landed code's line, stmtText, loopText, bodyText.
-/
import Derived.Test.YtkhccpjkajhnpabGreatDoorP09ofProgText
import Derived.Test.YtkhccpjkajhnpabGreatDoorP10ofProgText
namespace Go.Proofs.YtkhccpjkajhnpabGreatDoor
open Go.RowKit Go.Lib
set_option linter.unusedSimpArgs false
set_option linter.unusedVariables false

set_option maxRecDepth 100000 in
theorem line_is (ns : List ByteArray) (hn : ns.length ≤ 1000) (hlen : (catT ns).length ≤ 900000) (v : Value) (w : World) (hv : TV w 0 v ns) :
    Calls Tryz.prog 43 #[v] w fun e w' => e = .returned (.string (str (catT ns ++ [10]))) ∧ Below w.heap.size w w' := by
  have CJ := Lib.hid (joined_is ns hn (by omega) v w hv)
  obtain ⟨T, HT⟩ : ∃ T, Hid (str (catT ns) = T) := ⟨_, rfl⟩
  rw [HT.out] at CJ
  have EQ := Lib.hid (show catT [T, ⟨#[10]⟩] = catT ns ++ [10] by rw [← HT.out]; simp only [catT, str_list]; rfl)
  have CK := Lib.hid (fun (W : World) => joined_is [T, ⟨#[10]⟩] (by simp) (by rw [EQ.out, List.length_append]; simp only [List.length_cons, List.length_nil]; omega) _ _ (TV.new W [T, ⟨#[10]⟩] 9 2 2 rfl))
  rw [EQ.out] at CK
  obtain ⟨a, c, rfl⟩ := hv.shape
  clear hv hlen
  go_enter Tryz.func43, Tryz.ntmps43
  go_wp2_with fail
  refine CJ.out.mono ?_
  rintro e w1 ⟨rfl, hb1⟩
  go_wp2_with fail
  refine (CK.out _).mono ?_
  rintro e w2 ⟨rfl, hb2⟩
  have B2 := Lib.hid (hb1.trans ((below_alloc hb2).mono hb1.size))
  clear hb1 hb2 CJ CK
  go_wp2
  go_ret
  exact ⟨rfl, B2.out⟩
/-- What bodyText says of rows that are as told so deep. -/
def BodyI (d : Nat) : Prop := ∀ (F : SF), toldS d F = true → snodes F ≤ 40 → ∀ (p : List UInt8), p.length + 2 * d ≤ 6 → ∀ (w : World) (v : Value), SV w 0 F v → TabT w → Calls Tryz.prog 19 #[v, .string (str p)] w fun e w' => e = .returned (.string (str (bodyT F p))) ∧ Below w.heap.size w w'
set_option maxHeartbeats 2000000 in
set_option maxRecDepth 100000 in
theorem stmtText_1 (h : SH) (l : SF) (hs : h.s.size ≤ 6) (hk : h.k = 1) (q2 : expOk h.x2 = true) (p : List UInt8) (hp : p.length ≤ 6) (w : World) (v1 v2 v3 v4 v : Value) (hv : HV w 0 h v1 v2 v3 v4) (hT : TabT w) :
    Calls Tryz.prog 45 #[sagg h v1 v2 v3 v4 v, .string (str p)] w fun e w' => e = .returned (.string (str (stT p h (bodyT l (p ++ [32, 32]))))) ∧ Below w.heap.size w w' := by
  have B := Lib.hid (alloc_below w (.cells (#[.int .i64 1, .string h.s, .int .i64 h.x1.h.k, .int .i64 h.x1.h.n, .string h.x1.h.s, v1, .int .i64 h.x2.h.k, .int .i64 h.x2.h.n, .string h.x2.h.s, v2, .int .i64 h.x3.h.k, .int .i64 h.x3.h.n, .string h.x3.h.s, v3, .int .i64 h.x4.h.k, .int .i64 h.x4.h.n, .string h.x4.h.s, v4, v]) 67))
  obtain ⟨w1, W1⟩ : ∃ w1, Hid (w1 = w.alloc (.cells (#[.int .i64 1, .string h.s, .int .i64 h.x1.h.k, .int .i64 h.x1.h.n, .string h.x1.h.s, v1, .int .i64 h.x2.h.k, .int .i64 h.x2.h.n, .string h.x2.h.s, v2, .int .i64 h.x3.h.k, .int .i64 h.x3.h.n, .string h.x3.h.s, v3, .int .i64 h.x4.h.k, .int .i64 h.x4.h.n, .string h.x4.h.s, v4, v]) 67)) := ⟨_, rfl⟩
  have RG := Lib.hid (show w1.rangeAt w.heap.size 0 (scells h v1 v2 v3 v4 v) by rw [W1.out, show scells h v1 v2 v3 v4 v = [.int .i64 1, .string h.s, .int .i64 h.x1.h.k, .int .i64 h.x1.h.n, .string h.x1.h.s, v1, .int .i64 h.x2.h.k, .int .i64 h.x2.h.n, .string h.x2.h.s, v2, .int .i64 h.x3.h.k, .int .i64 h.x3.h.n, .string h.x3.h.s, v3, .int .i64 h.x4.h.k, .int .i64 h.x4.h.n, .string h.x4.h.s, v4, v] by unfold scells; rw [hk]; rfl]; exact new_range w (#[.int .i64 1, .string h.s, .int .i64 h.x1.h.k, .int .i64 h.x1.h.n, .string h.x1.h.s, v1, .int .i64 h.x2.h.k, .int .i64 h.x2.h.n, .string h.x2.h.s, v2, .int .i64 h.x3.h.k, .int .i64 h.x3.h.n, .string h.x3.h.s, v3, .int .i64 h.x4.h.k, .int .i64 h.x4.h.n, .string h.x4.h.s, v4, v]) 67)
  have B1 := Lib.hid (show Below w.heap.size w w1 by rw [W1.out]; exact B.out)
  have HT1 := Lib.hid (hT.later B1.out)
  obtain ⟨Pd, HPd⟩ : ∃ Pd, Hid (str p = Pd) := ⟨_, rfl⟩
  have ePd : Pd.data.toList = p := by rw [← HPd.out, str_list]
  have hsl : h.s.data.toList.length = h.s.size := by simp
  have ck : w1.cell? ⟨w.heap.size, 0, Option.none⟩ = some (.int .i64 h.k) := (sx0 RG.out).1
  obtain ⟨X2, HX2⟩ : ∃ T, Hid (str (xT h.x2) = T) := ⟨_, rfl⟩
  have eX2 : X2.data.toList = xT h.x2 := by rw [← HX2.out, str_list]
  have lX2 := expOk_len q2
  have CX2 : Hid (∀ W, Below w1.heap.size w1 W → Calls Tryz.prog 68 #[.agg (xcells h.x2 v2).toArray] W fun e w' => e = .returned (.string X2) ∧ Below W.heap.size W w') := Lib.hid fun W hW => by rw [← HX2.out]; exact partText_all 8 h.x2 (expOk_parts q2).1 (expOk_parts q2).2 W v2 ((hv.e2.later B1.out).later hW) (HT1.out.later hW)
  have EQ := Lib.hid (show catT [Pd, h.s, ⟨#[32, 61, 32]⟩, X2, ⟨#[59]⟩] ++ [10] = stT p h (bodyT l (p ++ [32, 32])) by rw [stT_1 hk]; simp only [catT, ePd, eX2, List.append_assoc, List.append_nil]; simp)
  have CL := Lib.hid (fun (W : World) => line_is [Pd, h.s, ⟨#[32, 61, 32]⟩, X2, ⟨#[59]⟩] (by simp) (by simp only [catT, List.length_append, ePd, eX2, List.length_nil, hsl]; simp; omega) _ _ (TV.new W [Pd, h.s, ⟨#[32, 61, 32]⟩, X2, ⟨#[59]⟩] 9 5 5 rfl))
  rw [EQ.out] at CL
  rw [hk] at ck
  have bd : Below w1.heap.size w1 w1.drew := (Below.refl _ w1).drew
  rw [HPd.out]
  clear hv hT B ePd hsl eX2 lX2
  go_enter Tryz.func45, Tryz.ntmps45
  go_wp2_with fail
  try (rw [← W1.out])
  clear W1 ck
  refine wp_region_held_drew (S := Below w1.heap.size w1) (by kernel_rfl) bd (fun hHeld => ?_)
  refine wpAnyH_take (i := 0) (v := .string Pd) rfl (by kernel_rfl) (by kernel_rfl) (by kernel_rfl) (fun _ _ _ h => h) (Or.inl ⟨by rfl, ?ya0⟩) hHeld ?_
  case ya0 => intro w hSw; go_simp
  simp only [Act.put, List.getElem_toArray, List.getElem_cons_succ, List.getElem_cons_zero, List.setIfInBounds_toArray, List.set_cons_zero, List.set_cons_succ]
  refine wpAnyH_take (i := 1) (v := .pointer (some ⟨w.heap.size, 1, Option.none⟩)) rfl (by kernel_rfl) (by kernel_rfl) (by kernel_rfl) (fun _ _ _ h => h) (Or.inl ⟨by rfl, ?ya1⟩) hHeld ?_
  case ya1 => intro w hSw; go_simp
  simp only [Act.put, List.getElem_toArray, List.getElem_cons_succ, List.getElem_cons_zero, List.setIfInBounds_toArray, List.set_cons_zero, List.set_cons_succ]
  refine wpAnyH_take (i := 2) (v := .string h.s) rfl (by kernel_rfl) (by kernel_rfl) (by kernel_rfl) (fun _ _ _ h => h) (Or.inl ⟨by rfl, ?ya2⟩) hHeld ?_
  case ya2 => intro w hSw; have q := (sx0 (rangeAt_later RG.out hSw)).2.1; go_simp
  simp only [Act.put, List.getElem_toArray, List.getElem_cons_succ, List.getElem_cons_zero, List.setIfInBounds_toArray, List.set_cons_zero, List.set_cons_succ]
  refine wpAnyH_take (i := 3) (v := .pointer (some ⟨w.heap.size, 6, Option.none⟩)) rfl (by kernel_rfl) (by kernel_rfl) (by kernel_rfl) (fun _ _ _ h => h) (Or.inl ⟨by rfl, ?ya3⟩) hHeld ?_
  case ya3 => intro w hSw; go_simp
  simp only [Act.put, List.getElem_toArray, List.getElem_cons_succ, List.getElem_cons_zero, List.setIfInBounds_toArray, List.set_cons_zero, List.set_cons_succ]
  refine wpAnyH_take (i := 4) (v := .agg (xcells h.x2 v2).toArray) rfl (by kernel_rfl) (by kernel_rfl) (by kernel_rfl) (fun _ _ _ h => h) (yieldsIf_load_mid (by rfl) 65 _ rfl (w.heap.size) (6) rfl (xcells h.x2 v2) _ (fun w h => sx2 (rangeAt_later RG.out h)) Tryz.underlying65 rfl sizeIE2) hHeld ?_
  simp only [Act.put, List.getElem_toArray, List.getElem_cons_succ, List.getElem_cons_zero, List.setIfInBounds_toArray, List.set_cons_zero, List.set_cons_succ]
  refine wpAnyH_ready (rs := [5]) (by kernel_rfl) (by simp) ?_
  refine AllReadyH.cons rfl (fun K hK => ?_) AllReadyH.nil
  rw [if_pos (by rfl)]
  simp only [List.getElem_toArray, List.getElem_cons_succ, List.getElem_cons_zero]
  go_wp2_with fail
  refine (CX2.out _ hHeld).mono ?_
  rintro e w5 ⟨rfl, hb5⟩
  go_wp2_with fail
  refine hK.out _ _ (hHeld.trans (hb5.mono hHeld.size)) (fun hHeld => ?_)
  try simp only [Act.put, List.getElem_toArray, List.getElem_cons_succ, List.getElem_cons_zero, List.setIfInBounds_toArray, List.set_cons_zero, List.set_cons_succ]
  refine wpAnyH_ready (rs := [6]) (by kernel_rfl) (by simp) ?_
  refine AllReadyH.cons rfl (fun K hK => ?_) AllReadyH.nil
  rw [if_pos (by rfl)]
  simp only [List.getElem_toArray, List.getElem_cons_succ, List.getElem_cons_zero]
  go_wp2_with fail
  refine hK.out _ _ (hHeld.alloc hHeld.size _) (fun hHeld => ?_)
  try simp only [Act.put, List.getElem_toArray, List.getElem_cons_succ, List.getElem_cons_zero, List.setIfInBounds_toArray, List.set_cons_zero, List.set_cons_succ]
  refine wpAnyH_ready (rs := [7]) (by kernel_rfl) (by simp) ?_
  refine AllReadyH.cons rfl (fun K hK => ?_) AllReadyH.nil
  rw [if_pos (by rfl)]
  simp only [List.getElem_toArray, List.getElem_cons_succ, List.getElem_cons_zero]
  go_wp2_with fail
  refine (CL.out w5).mono ?_
  rintro e w6 ⟨rfl, hb6⟩
  go_wp2_with fail
  refine hK.out _ _ (hHeld.trans (hb6.mono hHeld.size)) (fun hHeld => ?_)
  try simp only [Act.put, List.getElem_toArray, List.getElem_cons_succ, List.getElem_cons_zero, List.setIfInBounds_toArray, List.set_cons_zero, List.set_cons_succ]
  refine wpAnyH_take (i := 8) (v := .string (str (stT p h (bodyT l (p ++ [32, 32]))))) rfl (by kernel_rfl) (by kernel_rfl) (by kernel_rfl) (fun _ _ _ h => h) (Or.inl ⟨by rfl, ?ya8⟩) hHeld ?_
  case ya8 => intro w hSw; go_simp
  simp only [Act.put, List.getElem_toArray, List.getElem_cons_succ, List.getElem_cons_zero, List.setIfInBounds_toArray, List.set_cons_zero, List.set_cons_succ]
  refine wpAnyH_done (by kernel_rfl) ?_ _
  have BB := Lib.hid (B1.out.trans (hHeld.mono B1.out.size))
  clear hHeld bd
  go_wp2
  go_ret
  exact ⟨rfl, BB.out⟩
set_option maxHeartbeats 2000000 in
set_option maxRecDepth 100000 in
theorem stmtText_2 (h : SH) (l : SF) (hs : h.s.size ≤ 6) (hk : h.k = 2) (q1 : expOk h.x1 = true) (q2 : expOk h.x2 = true) (p : List UInt8) (hp : p.length ≤ 6) (w : World) (v1 v2 v3 v4 v : Value) (hv : HV w 0 h v1 v2 v3 v4) (hT : TabT w) :
    Calls Tryz.prog 45 #[sagg h v1 v2 v3 v4 v, .string (str p)] w fun e w' => e = .returned (.string (str (stT p h (bodyT l (p ++ [32, 32]))))) ∧ Below w.heap.size w w' := by
  have B := Lib.hid (alloc_below w (.cells (#[.int .i64 2, .string h.s, .int .i64 h.x1.h.k, .int .i64 h.x1.h.n, .string h.x1.h.s, v1, .int .i64 h.x2.h.k, .int .i64 h.x2.h.n, .string h.x2.h.s, v2, .int .i64 h.x3.h.k, .int .i64 h.x3.h.n, .string h.x3.h.s, v3, .int .i64 h.x4.h.k, .int .i64 h.x4.h.n, .string h.x4.h.s, v4, v]) 67))
  obtain ⟨w1, W1⟩ : ∃ w1, Hid (w1 = w.alloc (.cells (#[.int .i64 2, .string h.s, .int .i64 h.x1.h.k, .int .i64 h.x1.h.n, .string h.x1.h.s, v1, .int .i64 h.x2.h.k, .int .i64 h.x2.h.n, .string h.x2.h.s, v2, .int .i64 h.x3.h.k, .int .i64 h.x3.h.n, .string h.x3.h.s, v3, .int .i64 h.x4.h.k, .int .i64 h.x4.h.n, .string h.x4.h.s, v4, v]) 67)) := ⟨_, rfl⟩
  have RG := Lib.hid (show w1.rangeAt w.heap.size 0 (scells h v1 v2 v3 v4 v) by rw [W1.out, show scells h v1 v2 v3 v4 v = [.int .i64 2, .string h.s, .int .i64 h.x1.h.k, .int .i64 h.x1.h.n, .string h.x1.h.s, v1, .int .i64 h.x2.h.k, .int .i64 h.x2.h.n, .string h.x2.h.s, v2, .int .i64 h.x3.h.k, .int .i64 h.x3.h.n, .string h.x3.h.s, v3, .int .i64 h.x4.h.k, .int .i64 h.x4.h.n, .string h.x4.h.s, v4, v] by unfold scells; rw [hk]; rfl]; exact new_range w (#[.int .i64 2, .string h.s, .int .i64 h.x1.h.k, .int .i64 h.x1.h.n, .string h.x1.h.s, v1, .int .i64 h.x2.h.k, .int .i64 h.x2.h.n, .string h.x2.h.s, v2, .int .i64 h.x3.h.k, .int .i64 h.x3.h.n, .string h.x3.h.s, v3, .int .i64 h.x4.h.k, .int .i64 h.x4.h.n, .string h.x4.h.s, v4, v]) 67)
  have B1 := Lib.hid (show Below w.heap.size w w1 by rw [W1.out]; exact B.out)
  have HT1 := Lib.hid (hT.later B1.out)
  obtain ⟨Pd, HPd⟩ : ∃ Pd, Hid (str p = Pd) := ⟨_, rfl⟩
  have ePd : Pd.data.toList = p := by rw [← HPd.out, str_list]
  have hsl : h.s.data.toList.length = h.s.size := by simp
  have ck : w1.cell? ⟨w.heap.size, 0, Option.none⟩ = some (.int .i64 h.k) := (sx0 RG.out).1
  obtain ⟨X1, HX1⟩ : ∃ T, Hid (str (xT h.x1) = T) := ⟨_, rfl⟩
  have eX1 : X1.data.toList = xT h.x1 := by rw [← HX1.out, str_list]
  have lX1 := expOk_len q1
  have CX1 : Hid (∀ W, Below w1.heap.size w1 W → Calls Tryz.prog 68 #[.agg (xcells h.x1 v1).toArray] W fun e w' => e = .returned (.string X1) ∧ Below W.heap.size W w') := Lib.hid fun W hW => by rw [← HX1.out]; exact partText_all 8 h.x1 (expOk_parts q1).1 (expOk_parts q1).2 W v1 ((hv.e1.later B1.out).later hW) (HT1.out.later hW)
  obtain ⟨X2, HX2⟩ : ∃ T, Hid (str (xT h.x2) = T) := ⟨_, rfl⟩
  have eX2 : X2.data.toList = xT h.x2 := by rw [← HX2.out, str_list]
  have lX2 := expOk_len q2
  have CX2 : Hid (∀ W, Below w1.heap.size w1 W → Calls Tryz.prog 68 #[.agg (xcells h.x2 v2).toArray] W fun e w' => e = .returned (.string X2) ∧ Below W.heap.size W w') := Lib.hid fun W hW => by rw [← HX2.out]; exact partText_all 8 h.x2 (expOk_parts q2).1 (expOk_parts q2).2 W v2 ((hv.e2.later B1.out).later hW) (HT1.out.later hW)
  have EQ := Lib.hid (show catT [Pd, h.s, ⟨#[91]⟩, X1, ⟨#[93, 32, 61, 32]⟩, X2, ⟨#[59]⟩] ++ [10] = stT p h (bodyT l (p ++ [32, 32])) by rw [stT_2 hk]; simp only [catT, ePd, eX1, eX2, List.append_assoc, List.append_nil]; simp)
  have CL := Lib.hid (fun (W : World) => line_is [Pd, h.s, ⟨#[91]⟩, X1, ⟨#[93, 32, 61, 32]⟩, X2, ⟨#[59]⟩] (by simp) (by simp only [catT, List.length_append, ePd, eX1, eX2, List.length_nil, hsl]; simp; omega) _ _ (TV.new W [Pd, h.s, ⟨#[91]⟩, X1, ⟨#[93, 32, 61, 32]⟩, X2, ⟨#[59]⟩] 9 7 7 rfl))
  rw [EQ.out] at CL
  rw [hk] at ck
  have bd : Below w1.heap.size w1 w1.drew := (Below.refl _ w1).drew
  rw [HPd.out]
  clear hv hT B ePd hsl eX1 lX1 eX2 lX2
  go_enter Tryz.func45, Tryz.ntmps45
  go_wp2_with fail
  try (rw [← W1.out])
  clear W1 ck
  refine wp_region_held_drew (S := Below w1.heap.size w1) (by kernel_rfl) bd (fun hHeld => ?_)
  refine wpAnyH_take (i := 0) (v := .string Pd) rfl (by kernel_rfl) (by kernel_rfl) (by kernel_rfl) (fun _ _ _ h => h) (Or.inl ⟨by rfl, ?yb0⟩) hHeld ?_
  case yb0 => intro w hSw; go_simp
  simp only [Act.put, List.getElem_toArray, List.getElem_cons_succ, List.getElem_cons_zero, List.setIfInBounds_toArray, List.set_cons_zero, List.set_cons_succ]
  refine wpAnyH_take (i := 1) (v := .pointer (some ⟨w.heap.size, 1, Option.none⟩)) rfl (by kernel_rfl) (by kernel_rfl) (by kernel_rfl) (fun _ _ _ h => h) (Or.inl ⟨by rfl, ?yb1⟩) hHeld ?_
  case yb1 => intro w hSw; go_simp
  simp only [Act.put, List.getElem_toArray, List.getElem_cons_succ, List.getElem_cons_zero, List.setIfInBounds_toArray, List.set_cons_zero, List.set_cons_succ]
  refine wpAnyH_take (i := 2) (v := .string h.s) rfl (by kernel_rfl) (by kernel_rfl) (by kernel_rfl) (fun _ _ _ h => h) (Or.inl ⟨by rfl, ?yb2⟩) hHeld ?_
  case yb2 => intro w hSw; have q := (sx0 (rangeAt_later RG.out hSw)).2.1; go_simp
  simp only [Act.put, List.getElem_toArray, List.getElem_cons_succ, List.getElem_cons_zero, List.setIfInBounds_toArray, List.set_cons_zero, List.set_cons_succ]
  refine wpAnyH_take (i := 3) (v := .pointer (some ⟨w.heap.size, 2, Option.none⟩)) rfl (by kernel_rfl) (by kernel_rfl) (by kernel_rfl) (fun _ _ _ h => h) (Or.inl ⟨by rfl, ?yb3⟩) hHeld ?_
  case yb3 => intro w hSw; go_simp
  simp only [Act.put, List.getElem_toArray, List.getElem_cons_succ, List.getElem_cons_zero, List.setIfInBounds_toArray, List.set_cons_zero, List.set_cons_succ]
  refine wpAnyH_take (i := 4) (v := .agg (xcells h.x1 v1).toArray) rfl (by kernel_rfl) (by kernel_rfl) (by kernel_rfl) (fun _ _ _ h => h) (yieldsIf_load_mid (by rfl) 65 _ rfl (w.heap.size) (2) rfl (xcells h.x1 v1) _ (fun w h => sx1 (rangeAt_later RG.out h)) Tryz.underlying65 rfl sizeIE2) hHeld ?_
  simp only [Act.put, List.getElem_toArray, List.getElem_cons_succ, List.getElem_cons_zero, List.setIfInBounds_toArray, List.set_cons_zero, List.set_cons_succ]
  refine wpAnyH_take (i := 6) (v := .pointer (some ⟨w.heap.size, 6, Option.none⟩)) rfl (by kernel_rfl) (by kernel_rfl) (by kernel_rfl) (fun _ _ _ h => h) (Or.inl ⟨by rfl, ?yb6⟩) hHeld ?_
  case yb6 => intro w hSw; go_simp
  simp only [Act.put, List.getElem_toArray, List.getElem_cons_succ, List.getElem_cons_zero, List.setIfInBounds_toArray, List.set_cons_zero, List.set_cons_succ]
  refine wpAnyH_take (i := 7) (v := .agg (xcells h.x2 v2).toArray) rfl (by kernel_rfl) (by kernel_rfl) (by kernel_rfl) (fun _ _ _ h => h) (yieldsIf_load_mid (by rfl) 65 _ rfl (w.heap.size) (6) rfl (xcells h.x2 v2) _ (fun w h => sx2 (rangeAt_later RG.out h)) Tryz.underlying65 rfl sizeIE2) hHeld ?_
  simp only [Act.put, List.getElem_toArray, List.getElem_cons_succ, List.getElem_cons_zero, List.setIfInBounds_toArray, List.set_cons_zero, List.set_cons_succ]
  refine wpAnyH_ready (rs := [5]) (by kernel_rfl) (by simp) ?_
  refine AllReadyH.cons rfl (fun K hK => ?_) AllReadyH.nil
  rw [if_pos (by rfl)]
  simp only [List.getElem_toArray, List.getElem_cons_succ, List.getElem_cons_zero]
  go_wp2_with fail
  refine (CX1.out _ hHeld).mono ?_
  rintro e w5 ⟨rfl, hb5⟩
  go_wp2_with fail
  refine hK.out _ _ (hHeld.trans (hb5.mono hHeld.size)) (fun hHeld => ?_)
  try simp only [Act.put, List.getElem_toArray, List.getElem_cons_succ, List.getElem_cons_zero, List.setIfInBounds_toArray, List.set_cons_zero, List.set_cons_succ]
  refine wpAnyH_ready (rs := [8]) (by kernel_rfl) (by simp) ?_
  refine AllReadyH.cons rfl (fun K hK => ?_) AllReadyH.nil
  rw [if_pos (by rfl)]
  simp only [List.getElem_toArray, List.getElem_cons_succ, List.getElem_cons_zero]
  go_wp2_with fail
  refine (CX2.out _ hHeld).mono ?_
  rintro e w6 ⟨rfl, hb6⟩
  go_wp2_with fail
  refine hK.out _ _ (hHeld.trans (hb6.mono hHeld.size)) (fun hHeld => ?_)
  try simp only [Act.put, List.getElem_toArray, List.getElem_cons_succ, List.getElem_cons_zero, List.setIfInBounds_toArray, List.set_cons_zero, List.set_cons_succ]
  refine wpAnyH_ready (rs := [9]) (by kernel_rfl) (by simp) ?_
  refine AllReadyH.cons rfl (fun K hK => ?_) AllReadyH.nil
  rw [if_pos (by rfl)]
  simp only [List.getElem_toArray, List.getElem_cons_succ, List.getElem_cons_zero]
  go_wp2_with fail
  refine hK.out _ _ (hHeld.alloc hHeld.size _) (fun hHeld => ?_)
  try simp only [Act.put, List.getElem_toArray, List.getElem_cons_succ, List.getElem_cons_zero, List.setIfInBounds_toArray, List.set_cons_zero, List.set_cons_succ]
  refine wpAnyH_ready (rs := [10]) (by kernel_rfl) (by simp) ?_
  refine AllReadyH.cons rfl (fun K hK => ?_) AllReadyH.nil
  rw [if_pos (by rfl)]
  simp only [List.getElem_toArray, List.getElem_cons_succ, List.getElem_cons_zero]
  go_wp2_with fail
  refine (CL.out w6).mono ?_
  rintro e w7 ⟨rfl, hb7⟩
  go_wp2_with fail
  refine hK.out _ _ (hHeld.trans (hb7.mono hHeld.size)) (fun hHeld => ?_)
  try simp only [Act.put, List.getElem_toArray, List.getElem_cons_succ, List.getElem_cons_zero, List.setIfInBounds_toArray, List.set_cons_zero, List.set_cons_succ]
  refine wpAnyH_take (i := 11) (v := .string (str (stT p h (bodyT l (p ++ [32, 32]))))) rfl (by kernel_rfl) (by kernel_rfl) (by kernel_rfl) (fun _ _ _ h => h) (Or.inl ⟨by rfl, ?yb11⟩) hHeld ?_
  case yb11 => intro w hSw; go_simp
  simp only [Act.put, List.getElem_toArray, List.getElem_cons_succ, List.getElem_cons_zero, List.setIfInBounds_toArray, List.set_cons_zero, List.set_cons_succ]
  refine wpAnyH_done (by kernel_rfl) ?_ _
  have BB := Lib.hid (B1.out.trans (hHeld.mono B1.out.size))
  clear hHeld bd
  go_wp2
  go_ret
  exact ⟨rfl, BB.out⟩
set_option maxHeartbeats 2000000 in
set_option maxRecDepth 100000 in
theorem stmtText_4 (h : SH) (l : SF) (hk : h.k = 4) (q2 : expOk h.x2 = true) (p : List UInt8) (hp : p.length ≤ 6) (w : World) (v1 v2 v3 v4 v : Value) (hv : HV w 0 h v1 v2 v3 v4) (hT : TabT w) :
    Calls Tryz.prog 45 #[sagg h v1 v2 v3 v4 v, .string (str p)] w fun e w' => e = .returned (.string (str (stT p h (bodyT l (p ++ [32, 32]))))) ∧ Below w.heap.size w w' := by
  have B := Lib.hid (alloc_below w (.cells (#[.int .i64 4, .string h.s, .int .i64 h.x1.h.k, .int .i64 h.x1.h.n, .string h.x1.h.s, v1, .int .i64 h.x2.h.k, .int .i64 h.x2.h.n, .string h.x2.h.s, v2, .int .i64 h.x3.h.k, .int .i64 h.x3.h.n, .string h.x3.h.s, v3, .int .i64 h.x4.h.k, .int .i64 h.x4.h.n, .string h.x4.h.s, v4, v]) 67))
  obtain ⟨w1, W1⟩ : ∃ w1, Hid (w1 = w.alloc (.cells (#[.int .i64 4, .string h.s, .int .i64 h.x1.h.k, .int .i64 h.x1.h.n, .string h.x1.h.s, v1, .int .i64 h.x2.h.k, .int .i64 h.x2.h.n, .string h.x2.h.s, v2, .int .i64 h.x3.h.k, .int .i64 h.x3.h.n, .string h.x3.h.s, v3, .int .i64 h.x4.h.k, .int .i64 h.x4.h.n, .string h.x4.h.s, v4, v]) 67)) := ⟨_, rfl⟩
  have RG := Lib.hid (show w1.rangeAt w.heap.size 0 (scells h v1 v2 v3 v4 v) by rw [W1.out, show scells h v1 v2 v3 v4 v = [.int .i64 4, .string h.s, .int .i64 h.x1.h.k, .int .i64 h.x1.h.n, .string h.x1.h.s, v1, .int .i64 h.x2.h.k, .int .i64 h.x2.h.n, .string h.x2.h.s, v2, .int .i64 h.x3.h.k, .int .i64 h.x3.h.n, .string h.x3.h.s, v3, .int .i64 h.x4.h.k, .int .i64 h.x4.h.n, .string h.x4.h.s, v4, v] by unfold scells; rw [hk]; rfl]; exact new_range w (#[.int .i64 4, .string h.s, .int .i64 h.x1.h.k, .int .i64 h.x1.h.n, .string h.x1.h.s, v1, .int .i64 h.x2.h.k, .int .i64 h.x2.h.n, .string h.x2.h.s, v2, .int .i64 h.x3.h.k, .int .i64 h.x3.h.n, .string h.x3.h.s, v3, .int .i64 h.x4.h.k, .int .i64 h.x4.h.n, .string h.x4.h.s, v4, v]) 67)
  have B1 := Lib.hid (show Below w.heap.size w w1 by rw [W1.out]; exact B.out)
  have HT1 := Lib.hid (hT.later B1.out)
  obtain ⟨Pd, HPd⟩ : ∃ Pd, Hid (str p = Pd) := ⟨_, rfl⟩
  have ePd : Pd.data.toList = p := by rw [← HPd.out, str_list]
  have hsl : h.s.data.toList.length = h.s.size := by simp
  have ck : w1.cell? ⟨w.heap.size, 0, Option.none⟩ = some (.int .i64 h.k) := (sx0 RG.out).1
  obtain ⟨X2, HX2⟩ : ∃ T, Hid (str (xT h.x2) = T) := ⟨_, rfl⟩
  have eX2 : X2.data.toList = xT h.x2 := by rw [← HX2.out, str_list]
  have lX2 := expOk_len q2
  have CX2 : Hid (∀ W, Below w1.heap.size w1 W → Calls Tryz.prog 68 #[.agg (xcells h.x2 v2).toArray] W fun e w' => e = .returned (.string X2) ∧ Below W.heap.size W w') := Lib.hid fun W hW => by rw [← HX2.out]; exact partText_all 8 h.x2 (expOk_parts q2).1 (expOk_parts q2).2 W v2 ((hv.e2.later B1.out).later hW) (HT1.out.later hW)
  have EQ := Lib.hid (show catT [Pd, ⟨#[112, 114, 105, 110, 116, 32]⟩, X2, ⟨#[59]⟩] ++ [10] = stT p h (bodyT l (p ++ [32, 32])) by rw [stT_4 hk]; simp only [catT, ePd, eX2, List.append_assoc, List.append_nil]; simp)
  have CL := Lib.hid (fun (W : World) => line_is [Pd, ⟨#[112, 114, 105, 110, 116, 32]⟩, X2, ⟨#[59]⟩] (by simp) (by simp only [catT, List.length_append, ePd, eX2, List.length_nil, hsl]; simp; omega) _ _ (TV.new W [Pd, ⟨#[112, 114, 105, 110, 116, 32]⟩, X2, ⟨#[59]⟩] 9 4 4 rfl))
  rw [EQ.out] at CL
  rw [hk] at ck
  have bd : Below w1.heap.size w1 w1.drew := (Below.refl _ w1).drew
  rw [HPd.out]
  clear hv hT B ePd hsl eX2 lX2
  go_enter Tryz.func45, Tryz.ntmps45
  go_wp2_with (refine wpList_load_mid rfl 65 _ rfl w.heap.size 6 rfl _ _ (by rw [← W1.out]; exact sx2 RG.out) Tryz.underlying65 rfl sizeIE2 ?_)
  rw [← W1.out]
  clear W1 ck
  refine (CX2.out _ (Below.refl _ _)).mono ?_
  rintro e w2 ⟨rfl, hb2⟩
  have B2 := Lib.hid (B1.out.trans (hb2.mono B1.out.size))
  clear hb2 CX2
  go_wp2_with fail
  refine (CL.out _).mono ?_
  rintro e w3 ⟨rfl, hb3⟩
  have B3 := Lib.hid (B2.out.trans ((below_alloc hb3).mono B2.out.size))
  clear hb3 CL
  go_wp2
  go_ret
  exact ⟨rfl, B3.out⟩
set_option maxHeartbeats 4000000 in
set_option maxRecDepth 100000 in
theorem loopText_of (d : Nat) (ih : BodyI d) (h : SH) (l : SF) (hs : h.s.size ≤ 6) (hok : headOk h = true) (hk : h.k = 3) (q3 : expOk h.x3 = true) (q4 : expOk h.x4 = true) (hl : toldS d l = true) (hln : snodes l ≤ 40) (p : List UInt8) (hp : p.length + 2 * (d + 1) ≤ 6) (w : World) (v1 v2 v3 v4 v : Value) (hv : HV w 0 h v1 v2 v3 v4) (hvl : SV w 0 l v) (hT : TabT w) :
    Calls Tryz.prog 69 #[sagg h v1 v2 v3 v4 v, .string (str p)] w fun e w' => e = .returned (.string (str (stT p h (bodyT l (p ++ [32, 32]))))) ∧ Below w.heap.size w w' := by
  have B := Lib.hid (alloc_below w (.cells (#[.int .i64 3, .string h.s, .int .i64 h.x1.h.k, .int .i64 h.x1.h.n, .string h.x1.h.s, v1, .int .i64 h.x2.h.k, .int .i64 h.x2.h.n, .string h.x2.h.s, v2, .int .i64 h.x3.h.k, .int .i64 h.x3.h.n, .string h.x3.h.s, v3, .int .i64 h.x4.h.k, .int .i64 h.x4.h.n, .string h.x4.h.s, v4, v]) 67))
  obtain ⟨w1, W1⟩ : ∃ w1, Hid (w1 = w.alloc (.cells (#[.int .i64 3, .string h.s, .int .i64 h.x1.h.k, .int .i64 h.x1.h.n, .string h.x1.h.s, v1, .int .i64 h.x2.h.k, .int .i64 h.x2.h.n, .string h.x2.h.s, v2, .int .i64 h.x3.h.k, .int .i64 h.x3.h.n, .string h.x3.h.s, v3, .int .i64 h.x4.h.k, .int .i64 h.x4.h.n, .string h.x4.h.s, v4, v]) 67)) := ⟨_, rfl⟩
  have RG := Lib.hid (show w1.rangeAt w.heap.size 0 (scells h v1 v2 v3 v4 v) by rw [W1.out, show scells h v1 v2 v3 v4 v = [.int .i64 3, .string h.s, .int .i64 h.x1.h.k, .int .i64 h.x1.h.n, .string h.x1.h.s, v1, .int .i64 h.x2.h.k, .int .i64 h.x2.h.n, .string h.x2.h.s, v2, .int .i64 h.x3.h.k, .int .i64 h.x3.h.n, .string h.x3.h.s, v3, .int .i64 h.x4.h.k, .int .i64 h.x4.h.n, .string h.x4.h.s, v4, v] by unfold scells; rw [hk]; rfl]; exact new_range w (#[.int .i64 3, .string h.s, .int .i64 h.x1.h.k, .int .i64 h.x1.h.n, .string h.x1.h.s, v1, .int .i64 h.x2.h.k, .int .i64 h.x2.h.n, .string h.x2.h.s, v2, .int .i64 h.x3.h.k, .int .i64 h.x3.h.n, .string h.x3.h.s, v3, .int .i64 h.x4.h.k, .int .i64 h.x4.h.n, .string h.x4.h.s, v4, v]) 67)
  have B1 := Lib.hid (show Below w.heap.size w w1 by rw [W1.out]; exact B.out)
  have HT1 := Lib.hid (hT.later B1.out)
  obtain ⟨Pd, HPd⟩ : ∃ Pd, Hid (str p = Pd) := ⟨_, rfl⟩
  have ePd : Pd.data.toList = p := by rw [← HPd.out, str_list]
  have hsl : h.s.data.toList.length = h.s.size := by simp
  obtain ⟨X3, HX3⟩ : ∃ T, Hid (str (xT h.x3) = T) := ⟨_, rfl⟩
  have eX3 : X3.data.toList = xT h.x3 := by rw [← HX3.out, str_list]
  have lX3 := expOk_len q3
  have CX3 : Hid (∀ W, Below w1.heap.size w1 W → Calls Tryz.prog 68 #[.agg (xcells h.x3 v3).toArray] W fun e w' => e = .returned (.string X3) ∧ Below W.heap.size W w') := Lib.hid fun W hW => by rw [← HX3.out]; exact partText_all 8 h.x3 (expOk_parts q3).1 (expOk_parts q3).2 W v3 ((hv.e3.later B1.out).later hW) (HT1.out.later hW)
  obtain ⟨X4, HX4⟩ : ∃ T, Hid (str (xT h.x4) = T) := ⟨_, rfl⟩
  have eX4 : X4.data.toList = xT h.x4 := by rw [← HX4.out, str_list]
  have lX4 := expOk_len q4
  have CX4 : Hid (∀ W, Below w1.heap.size w1 W → Calls Tryz.prog 68 #[.agg (xcells h.x4 v4).toArray] W fun e w' => e = .returned (.string X4) ∧ Below W.heap.size W w') := Lib.hid fun W hW => by rw [← HX4.out]; exact partText_all 8 h.x4 (expOk_parts q4).1 (expOk_parts q4).2 W v4 ((hv.e4.later B1.out).later hW) (HT1.out.later hW)
  have hpl : (p ++ [32, 32]).length + 2 * d ≤ 6 := by simp only [List.length_append, List.length_cons, List.length_nil]; omega
  have lB := bodyT_len l d _ hl hpl
  obtain ⟨T, HT⟩ : ∃ T, Hid (str (bodyT l (p ++ [32, 32])) = T) := ⟨_, Lib.hid rfl⟩
  have eT : T.data.toList = bodyT l (p ++ [32, 32]) := by rw [← HT.out, str_list]
  have e2P := Lib.hid (show str (catT [Pd, ⟨#[32, 32]⟩]) = str (p ++ [32, 32]) by simp only [catT, ePd, List.append_nil]; try rfl)
  have CB : Hid (∀ W, Below w1.heap.size w1 W → Calls Tryz.prog 19 #[v, .string (str (catT [Pd, ⟨#[32, 32]⟩]))] W fun e w' => e = .returned (.string T) ∧ Below W.heap.size W w') := Lib.hid fun W hW => by rw [e2P.out, ← HT.out]; exact ih l hl hln _ hpl W v ((hvl.later B1.out).later hW) (HT1.out.later hW)
  have CP := Lib.hid (fun (W : World) (u : Value) (hu : TV W 0 u [Pd, ⟨#[32, 32]⟩]) => joined_is [Pd, ⟨#[32, 32]⟩] (by simp) (by simp only [catT, ePd, List.length_append, List.length_nil]; simp; omega) u W hu)
  have CE := Lib.hid (fun (W : World) (u : Value) (hu : TV W 0 u [Pd, ⟨#[125]⟩]) => line_is [Pd, ⟨#[125]⟩] (by simp) (by simp only [catT, ePd, List.length_append, List.length_nil]; simp; omega) u W hu)
  have EH := Lib.hid (show catT [Pd, ⟨#[102, 111, 114, 32]⟩, h.s, ⟨#[32, 61, 32]⟩, X3, ⟨#[32, 116, 111, 32]⟩, X4, ⟨#[32, 123]⟩] ++ [10] = p ++ ([102, 111, 114, 32] ++ (h.s.data.toList ++ ([32, 61, 32] ++ (xT h.x3 ++ ([32, 116, 111, 32] ++ (xT h.x4 ++ [32, 123, 10])))))) by simp only [catT, ePd, eX3, eX4, List.append_assoc, List.append_nil]; simp)
  have CL := Lib.hid (fun (W : World) => line_is [Pd, ⟨#[102, 111, 114, 32]⟩, h.s, ⟨#[32, 61, 32]⟩, X3, ⟨#[32, 116, 111, 32]⟩, X4, ⟨#[32, 123]⟩] (by simp) (by simp only [catT, List.length_append, ePd, eX3, eX4, List.length_nil, hsl]; simp; omega) _ _ (TV.new W [Pd, ⟨#[102, 111, 114, 32]⟩, h.s, ⟨#[32, 61, 32]⟩, X3, ⟨#[32, 116, 111, 32]⟩, X4, ⟨#[32, 123]⟩] 9 8 8 rfl))
  rw [EH.out] at CL
  obtain ⟨Hd, HHd⟩ : ∃ T, Hid (str (p ++ ([102, 111, 114, 32] ++ (h.s.data.toList ++ ([32, 61, 32] ++ (xT h.x3 ++ ([32, 116, 111, 32] ++ (xT h.x4 ++ [32, 123, 10]))))))) = T) := ⟨_, Lib.hid rfl⟩
  have eHd : Hd.data.toList = p ++ ([102, 111, 114, 32] ++ (h.s.data.toList ++ ([32, 61, 32] ++ (xT h.x3 ++ ([32, 116, 111, 32] ++ (xT h.x4 ++ [32, 123, 10])))))) := by rw [← HHd.out, str_list]
  rw [HHd.out] at CL
  obtain ⟨Ed, HEd⟩ : ∃ T, Hid (str (catT [Pd, ⟨#[125]⟩] ++ [10]) = T) := ⟨_, Lib.hid rfl⟩
  have eEd : Ed.data.toList = p ++ [125, 10] := by rw [← HEd.out, str_list]; simp only [catT, ePd, List.append_nil, List.append_assoc]; try rfl
  rw [HEd.out] at CE
  have EQ := Lib.hid (show catT [Hd, T, Ed] = stT p h (bodyT l (p ++ [32, 32])) by rw [stT_3 hk]; simp only [catT, eHd, eT, eEd, List.append_assoc, List.append_nil]; try simp)
  have CF := Lib.hid (fun (W : World) => joined_is [Hd, T, Ed] (by simp) (by rw [EQ.out]; have := stT_len (b := bodyT l (p ++ [32, 32])) (h := h) (p := p) hok (by omega); omega) _ _ (TV.new W [Hd, T, Ed] 9 3 3 rfl))
  rw [EQ.out] at CF
  obtain ⟨QQ, HQQ⟩ : ∃ T, Hid (str (catT [Pd, ⟨#[32, 32]⟩]) = T) := ⟨_, Lib.hid rfl⟩
  rw [HQQ.out] at CB CP
  have bd : Below w1.heap.size w1 w1.drew := (Below.refl _ w1).drew
  rw [HPd.out]
  clear hv hvl hT B ePd hsl eX3 lX3 eX4 lX4 eT eHd eEd ih hpl lB
  go_enter Tryz.func69, Tryz.ntmps69
  go_wp2_with fail
  rw [← W1.out]
  clear W1
  refine wp_region_held_drew (S := Below w1.heap.size w1) (by kernel_rfl) bd (fun hHeld => ?_)
  refine wpAnyH_take (i := 0) (v := .string Pd) rfl (by kernel_rfl) (by kernel_rfl) (by kernel_rfl) (fun _ _ _ h => h) (Or.inl ⟨by rfl, ?yc0⟩) hHeld ?_
  case yc0 => intro w hSw; go_simp
  simp only [Act.put, List.getElem_toArray, List.getElem_cons_succ, List.getElem_cons_zero, List.setIfInBounds_toArray, List.set_cons_zero, List.set_cons_succ]
  refine wpAnyH_take (i := 1) (v := .pointer (some ⟨w.heap.size, 1, Option.none⟩)) rfl (by kernel_rfl) (by kernel_rfl) (by kernel_rfl) (fun _ _ _ h => h) (Or.inl ⟨by rfl, ?yc1⟩) hHeld ?_
  case yc1 => intro w hSw; go_simp
  simp only [Act.put, List.getElem_toArray, List.getElem_cons_succ, List.getElem_cons_zero, List.setIfInBounds_toArray, List.set_cons_zero, List.set_cons_succ]
  refine wpAnyH_take (i := 2) (v := .string h.s) rfl (by kernel_rfl) (by kernel_rfl) (by kernel_rfl) (fun _ _ _ h => h) (Or.inl ⟨by rfl, ?yc2⟩) hHeld ?_
  case yc2 => intro w hSw; have q := (sx0 (rangeAt_later RG.out hSw)).2.1; go_simp
  simp only [Act.put, List.getElem_toArray, List.getElem_cons_succ, List.getElem_cons_zero, List.setIfInBounds_toArray, List.set_cons_zero, List.set_cons_succ]
  refine wpAnyH_take (i := 3) (v := .pointer (some ⟨w.heap.size, 10, Option.none⟩)) rfl (by kernel_rfl) (by kernel_rfl) (by kernel_rfl) (fun _ _ _ h => h) (Or.inl ⟨by rfl, ?yc3⟩) hHeld ?_
  case yc3 => intro w hSw; go_simp
  simp only [Act.put, List.getElem_toArray, List.getElem_cons_succ, List.getElem_cons_zero, List.setIfInBounds_toArray, List.set_cons_zero, List.set_cons_succ]
  refine wpAnyH_take (i := 4) (v := .agg (xcells h.x3 v3).toArray) rfl (by kernel_rfl) (by kernel_rfl) (by kernel_rfl) (fun _ _ _ h => h) (yieldsIf_load_mid (by rfl) 65 _ rfl (w.heap.size) (10) rfl (xcells h.x3 v3) _ (fun w h => sx3 (rangeAt_later RG.out h)) Tryz.underlying65 rfl sizeIE2) hHeld ?_
  simp only [Act.put, List.getElem_toArray, List.getElem_cons_succ, List.getElem_cons_zero, List.setIfInBounds_toArray, List.set_cons_zero, List.set_cons_succ]
  refine wpAnyH_take (i := 6) (v := .pointer (some ⟨w.heap.size, 14, Option.none⟩)) rfl (by kernel_rfl) (by kernel_rfl) (by kernel_rfl) (fun _ _ _ h => h) (Or.inl ⟨by rfl, ?yc6⟩) hHeld ?_
  case yc6 => intro w hSw; go_simp
  simp only [Act.put, List.getElem_toArray, List.getElem_cons_succ, List.getElem_cons_zero, List.setIfInBounds_toArray, List.set_cons_zero, List.set_cons_succ]
  refine wpAnyH_take (i := 7) (v := .agg (xcells h.x4 v4).toArray) rfl (by kernel_rfl) (by kernel_rfl) (by kernel_rfl) (fun _ _ _ h => h) (yieldsIf_load_mid (by rfl) 65 _ rfl (w.heap.size) (14) rfl (xcells h.x4 v4) _ (fun w h => sx4 (rangeAt_later RG.out h)) Tryz.underlying65 rfl sizeIE2) hHeld ?_
  simp only [Act.put, List.getElem_toArray, List.getElem_cons_succ, List.getElem_cons_zero, List.setIfInBounds_toArray, List.set_cons_zero, List.set_cons_succ]
  refine wpAnyH_ready (rs := [5]) (by kernel_rfl) (by simp) ?_
  refine AllReadyH.cons rfl (fun K hK => ?_) AllReadyH.nil
  rw [if_pos (by rfl)]
  simp only [List.getElem_toArray, List.getElem_cons_succ, List.getElem_cons_zero]
  go_wp2_with fail
  refine (CX3.out _ hHeld).mono ?_
  rintro e w5 ⟨rfl, hb5⟩
  go_wp2_with fail
  refine hK.out _ _ (hHeld.trans (hb5.mono hHeld.size)) (fun hHeld => ?_)
  try simp only [Act.put, List.getElem_toArray, List.getElem_cons_succ, List.getElem_cons_zero, List.setIfInBounds_toArray, List.set_cons_zero, List.set_cons_succ]
  refine wpAnyH_ready (rs := [8]) (by kernel_rfl) (by simp) ?_
  refine AllReadyH.cons rfl (fun K hK => ?_) AllReadyH.nil
  rw [if_pos (by rfl)]
  simp only [List.getElem_toArray, List.getElem_cons_succ, List.getElem_cons_zero]
  go_wp2_with fail
  refine (CX4.out _ hHeld).mono ?_
  rintro e w6 ⟨rfl, hb6⟩
  go_wp2_with fail
  refine hK.out _ _ (hHeld.trans (hb6.mono hHeld.size)) (fun hHeld => ?_)
  try simp only [Act.put, List.getElem_toArray, List.getElem_cons_succ, List.getElem_cons_zero, List.setIfInBounds_toArray, List.set_cons_zero, List.set_cons_succ]
  refine wpAnyH_ready (rs := [9]) (by kernel_rfl) (by simp) ?_
  refine AllReadyH.cons rfl (fun K hK => ?_) AllReadyH.nil
  rw [if_pos (by rfl)]
  simp only [List.getElem_toArray, List.getElem_cons_succ, List.getElem_cons_zero]
  go_wp2_with fail
  refine hK.out _ _ (hHeld.alloc hHeld.size _) (fun hHeld => ?_)
  try simp only [Act.put, List.getElem_toArray, List.getElem_cons_succ, List.getElem_cons_zero, List.setIfInBounds_toArray, List.set_cons_zero, List.set_cons_succ]
  refine wpAnyH_ready (rs := [10]) (by kernel_rfl) (by simp) ?_
  refine AllReadyH.cons rfl (fun K hK => ?_) AllReadyH.nil
  rw [if_pos (by rfl)]
  simp only [List.getElem_toArray, List.getElem_cons_succ, List.getElem_cons_zero]
  go_wp2_with fail
  refine (CL.out w6).mono ?_
  rintro e w7 ⟨rfl, hb7⟩
  go_wp2_with fail
  refine hK.out _ _ (hHeld.trans (hb7.mono hHeld.size)) (fun hHeld => ?_)
  try simp only [Act.put, List.getElem_toArray, List.getElem_cons_succ, List.getElem_cons_zero, List.setIfInBounds_toArray, List.set_cons_zero, List.set_cons_succ]
  refine wpAnyH_take (i := 11) (v := .string Hd) rfl (by kernel_rfl) (by kernel_rfl) (by kernel_rfl) (fun _ _ _ h => h) (Or.inl ⟨by rfl, ?yc11⟩) hHeld ?_
  case yc11 => intro w hSw; go_simp
  simp only [Act.put, List.getElem_toArray, List.getElem_cons_succ, List.getElem_cons_zero, List.setIfInBounds_toArray, List.set_cons_zero, List.set_cons_succ]
  refine wpAnyH_done (by kernel_rfl) ?_ _
  have B2 := Lib.hid (B1.out.trans (hHeld.mono B1.out.size))
  have RG2 := Lib.hid (rangeAt_later RG.out hHeld)
  have hw12 := hHeld
  clear hHeld bd CX3 CX4 CL
  go_wp2_with fail
  have bd : Below w7.heap.size w7 w7.drew := (Below.refl _ w7).drew
  have hw1 : ∀ W, Below w7.heap.size w7 W → Below w1.heap.size w1 W := fun W hW => hw12.trans (hW.mono hw12.size)
  refine wp_region_held_drew (S := Below w7.heap.size w7) (by kernel_rfl) bd (fun hHeld => ?_)
  obtain ⟨wd, hwd⟩ : ∃ wd, w7.drew = wd := ⟨_, rfl⟩
  rw [hwd] at hHeld ⊢
  clear hwd bd
  refine wpAnyH_take (i := 0) (v := .string Hd) rfl (by kernel_rfl) (by kernel_rfl) (by kernel_rfl) (fun _ _ _ h => h) (Or.inl ⟨by rfl, ?yd0⟩) hHeld ?_
  case yd0 => intro w hSw; go_simp
  simp only [Act.put, List.getElem_toArray, List.getElem_cons_succ, List.getElem_cons_zero, List.setIfInBounds_toArray, List.set_cons_zero, List.set_cons_succ]
  refine wpAnyH_take (i := 1) (v := .pointer (some ⟨w.heap.size, 18, Option.none⟩)) rfl (by kernel_rfl) (by kernel_rfl) (by kernel_rfl) (fun _ _ _ h => h) (Or.inl ⟨by rfl, ?yd1⟩) hHeld ?_
  case yd1 => intro w hSw; go_simp
  simp only [Act.put, List.getElem_toArray, List.getElem_cons_succ, List.getElem_cons_zero, List.setIfInBounds_toArray, List.set_cons_zero, List.set_cons_succ]
  refine wpAnyH_take (i := 2) (v := v) rfl (by kernel_rfl) (by kernel_rfl) (by kernel_rfl) (fun _ _ _ h => h) (Or.inl ⟨by rfl, ?yd2⟩) hHeld ?_
  case yd2 => intro w hSw; have q := (sx0 (rangeAt_later RG2.out hSw)).2.2; go_simp
  simp only [Act.put, List.getElem_toArray, List.getElem_cons_succ, List.getElem_cons_zero, List.setIfInBounds_toArray, List.set_cons_zero, List.set_cons_succ]
  refine wpAnyH_take (i := 3) (v := .string Pd) rfl (by kernel_rfl) (by kernel_rfl) (by kernel_rfl) (fun _ _ _ h => h) (Or.inl ⟨by rfl, ?yd3⟩) hHeld ?_
  case yd3 => intro w hSw; go_simp
  simp only [Act.put, List.getElem_toArray, List.getElem_cons_succ, List.getElem_cons_zero, List.setIfInBounds_toArray, List.set_cons_zero, List.set_cons_succ]
  refine wpAnyH_take (i := 7) (v := .string Pd) rfl (by kernel_rfl) (by kernel_rfl) (by kernel_rfl) (fun _ _ _ h => h) (Or.inl ⟨by rfl, ?yd7⟩) hHeld ?_
  case yd7 => intro w hSw; go_simp
  simp only [Act.put, List.getElem_toArray, List.getElem_cons_succ, List.getElem_cons_zero, List.setIfInBounds_toArray, List.set_cons_zero, List.set_cons_succ]
  refine wpAnyH_ready (rs := [4, 8]) (by kernel_rfl) (by simp) ?_
  refine AllReadyH.cons rfl (fun K hK => ?_) (AllReadyH.cons rfl (fun K hK => ?_) AllReadyH.nil)
  ·
    rw [if_pos (by rfl)]
    simp only [List.getElem_toArray, List.getElem_cons_succ, List.getElem_cons_zero]
    go_wp2_with fail
    obtain ⟨w21, hW21⟩ : ∃ W, wd.alloc (.cells #[.string Pd, .string (⟨#[32, 32]⟩ : ByteArray)] 9) = W := ⟨_, rfl⟩
    have T21 : Hid (TV w21 0 (.slice (some ⟨wd.heap.size, 0, Option.none⟩) 2 2) [Pd, ⟨#[32, 32]⟩]) := Lib.hid (by rw [← hW21]; exact TV.new wd [Pd, ⟨#[32, 32]⟩] 9 2 2 rfl)
    have hb21 : Below wd.heap.size wd w21 := by rw [← hW21]; exact alloc_below _ _
    rw [hW21]
    refine hK.out _ _ (hHeld.trans (hb21.mono hHeld.size)) (fun hHeld => ?_)
    try simp only [Act.put, List.getElem_toArray, List.getElem_cons_succ, List.getElem_cons_zero, List.setIfInBounds_toArray, List.set_cons_zero, List.set_cons_succ]
    clear hb21 hW21
    refine wpAnyH_ready (rs := [5, 8]) (by kernel_rfl) (by simp) ?_
    refine AllReadyH.cons rfl (fun K hK => ?_) (AllReadyH.cons rfl (fun K hK => ?_) AllReadyH.nil)
    ·
      rw [if_pos (by rfl)]
      simp only [List.getElem_toArray, List.getElem_cons_succ, List.getElem_cons_zero]
      go_wp2_with fail
      refine (CP.out _ _ T21.out).mono ?_
      rintro e w22 ⟨rfl, hb22⟩
      go_wp2_with fail
      refine hK.out _ _ (hHeld.trans (hb22.mono hHeld.size)) (fun hHeld => ?_)
      try simp only [Act.put, List.getElem_toArray, List.getElem_cons_succ, List.getElem_cons_zero, List.setIfInBounds_toArray, List.set_cons_zero, List.set_cons_succ]
      refine wpAnyH_ready (rs := [6, 8]) (by kernel_rfl) (by simp) ?_
      refine AllReadyH.cons rfl (fun K hK => ?_) (AllReadyH.cons rfl (fun K hK => ?_) AllReadyH.nil)
      ·
        rw [if_pos (by rfl)]
        simp only [List.getElem_toArray, List.getElem_cons_succ, List.getElem_cons_zero]
        go_wp2_with fail
        refine (CB.out _ (hw1 _ hHeld)).mono ?_
        rintro e w23 ⟨rfl, hb23⟩
        go_wp2_with fail
        refine hK.out _ _ (hHeld.trans (hb23.mono hHeld.size)) (fun hHeld => ?_)
        try simp only [Act.put, List.getElem_toArray, List.getElem_cons_succ, List.getElem_cons_zero, List.setIfInBounds_toArray, List.set_cons_zero, List.set_cons_succ]
        refine wpAnyH_ready (rs := [8]) (by kernel_rfl) (by simp) ?_
        refine AllReadyH.cons rfl (fun K hK => ?_) AllReadyH.nil
        rw [if_pos (by rfl)]
        simp only [List.getElem_toArray, List.getElem_cons_succ, List.getElem_cons_zero]
        go_wp2_with fail
        obtain ⟨w24, hW24⟩ : ∃ W, w23.alloc (.cells #[.string Pd, .string (⟨#[125]⟩ : ByteArray)] 9) = W := ⟨_, rfl⟩
        have T24 : Hid (TV w24 0 (.slice (some ⟨w23.heap.size, 0, Option.none⟩) 2 2) [Pd, ⟨#[125]⟩]) := Lib.hid (by rw [← hW24]; exact TV.new w23 [Pd, ⟨#[125]⟩] 9 2 2 rfl)
        have hb24 : Below w23.heap.size w23 w24 := by rw [← hW24]; exact alloc_below _ _
        rw [hW24]
        refine hK.out _ _ (hHeld.trans (hb24.mono hHeld.size)) (fun hHeld => ?_)
        try simp only [Act.put, List.getElem_toArray, List.getElem_cons_succ, List.getElem_cons_zero, List.setIfInBounds_toArray, List.set_cons_zero, List.set_cons_succ]
        clear hb24 hW24
        refine wpAnyH_ready (rs := [9]) (by kernel_rfl) (by simp) ?_
        refine AllReadyH.cons rfl (fun K hK => ?_) AllReadyH.nil
        rw [if_pos (by rfl)]
        simp only [List.getElem_toArray, List.getElem_cons_succ, List.getElem_cons_zero]
        go_wp2_with fail
        refine (CE.out _ _ T24.out).mono ?_
        rintro e w25 ⟨rfl, hb25⟩
        go_wp2_with fail
        refine hK.out _ _ (hHeld.trans (hb25.mono hHeld.size)) (fun hHeld => ?_)
        try simp only [Act.put, List.getElem_toArray, List.getElem_cons_succ, List.getElem_cons_zero, List.setIfInBounds_toArray, List.set_cons_zero, List.set_cons_succ]
        refine wpAnyH_ready (rs := [10]) (by kernel_rfl) (by simp) ?_
        refine AllReadyH.cons rfl (fun K hK => ?_) AllReadyH.nil
        rw [if_pos (by rfl)]
        simp only [List.getElem_toArray, List.getElem_cons_succ, List.getElem_cons_zero]
        go_wp2_with fail
        refine hK.out _ _ (hHeld.alloc hHeld.size _) (fun hHeld => ?_)
        try simp only [Act.put, List.getElem_toArray, List.getElem_cons_succ, List.getElem_cons_zero, List.setIfInBounds_toArray, List.set_cons_zero, List.set_cons_succ]
        refine wpAnyH_ready (rs := [11]) (by kernel_rfl) (by simp) ?_
        refine AllReadyH.cons rfl (fun K hK => ?_) AllReadyH.nil
        rw [if_pos (by rfl)]
        simp only [List.getElem_toArray, List.getElem_cons_succ, List.getElem_cons_zero]
        go_wp2_with fail
        refine (CF.out w25).mono ?_
        rintro e w27 ⟨rfl, hb27⟩
        go_wp2_with fail
        refine hK.out _ _ (hHeld.trans (hb27.mono hHeld.size)) (fun hHeld => ?_)
        try simp only [Act.put, List.getElem_toArray, List.getElem_cons_succ, List.getElem_cons_zero, List.setIfInBounds_toArray, List.set_cons_zero, List.set_cons_succ]
        refine wpAnyH_take (i := 12) (v := .string (str (stT p h (bodyT l (p ++ [32, 32]))))) rfl (by kernel_rfl) (by kernel_rfl) (by kernel_rfl) (fun _ _ _ h => h) (Or.inl ⟨by rfl, ?ye2712⟩) hHeld ?_
        case ye2712 => intro w hSw; go_simp
        simp only [Act.put, List.getElem_toArray, List.getElem_cons_succ, List.getElem_cons_zero, List.setIfInBounds_toArray, List.set_cons_zero, List.set_cons_succ]
        refine wpAnyH_done (by kernel_rfl) ?_ _
        have BB := Lib.hid (B2.out.trans (hHeld.mono B2.out.size))
        clear hHeld
        go_wp2
        go_ret
        exact ⟨rfl, BB.out⟩
      ·
        rw [if_pos (by rfl)]
        simp only [List.getElem_toArray, List.getElem_cons_succ, List.getElem_cons_zero]
        go_wp2_with fail
        obtain ⟨w28, hW28⟩ : ∃ W, w22.alloc (.cells #[.string Pd, .string (⟨#[125]⟩ : ByteArray)] 9) = W := ⟨_, rfl⟩
        have T28 : Hid (TV w28 0 (.slice (some ⟨w22.heap.size, 0, Option.none⟩) 2 2) [Pd, ⟨#[125]⟩]) := Lib.hid (by rw [← hW28]; exact TV.new w22 [Pd, ⟨#[125]⟩] 9 2 2 rfl)
        have hb28 : Below w22.heap.size w22 w28 := by rw [← hW28]; exact alloc_below _ _
        rw [hW28]
        refine hK.out _ _ (hHeld.trans (hb28.mono hHeld.size)) (fun hHeld => ?_)
        try simp only [Act.put, List.getElem_toArray, List.getElem_cons_succ, List.getElem_cons_zero, List.setIfInBounds_toArray, List.set_cons_zero, List.set_cons_succ]
        clear hb28 hW28
        refine wpAnyH_ready (rs := [6]) (by kernel_rfl) (by simp) ?_
        refine AllReadyH.cons rfl (fun K hK => ?_) AllReadyH.nil
        rw [if_pos (by rfl)]
        simp only [List.getElem_toArray, List.getElem_cons_succ, List.getElem_cons_zero]
        go_wp2_with fail
        refine (CB.out _ (hw1 _ hHeld)).mono ?_
        rintro e w29 ⟨rfl, hb29⟩
        go_wp2_with fail
        have T29x8 := Lib.hid (T28.out.later hb29)
        refine hK.out _ _ (hHeld.trans (hb29.mono hHeld.size)) (fun hHeld => ?_)
        try simp only [Act.put, List.getElem_toArray, List.getElem_cons_succ, List.getElem_cons_zero, List.setIfInBounds_toArray, List.set_cons_zero, List.set_cons_succ]
        refine wpAnyH_ready (rs := [9]) (by kernel_rfl) (by simp) ?_
        refine AllReadyH.cons rfl (fun K hK => ?_) AllReadyH.nil
        rw [if_pos (by rfl)]
        simp only [List.getElem_toArray, List.getElem_cons_succ, List.getElem_cons_zero]
        go_wp2_with fail
        refine (CE.out _ _ T29x8.out).mono ?_
        rintro e w30 ⟨rfl, hb30⟩
        go_wp2_with fail
        refine hK.out _ _ (hHeld.trans (hb30.mono hHeld.size)) (fun hHeld => ?_)
        try simp only [Act.put, List.getElem_toArray, List.getElem_cons_succ, List.getElem_cons_zero, List.setIfInBounds_toArray, List.set_cons_zero, List.set_cons_succ]
        refine wpAnyH_ready (rs := [10]) (by kernel_rfl) (by simp) ?_
        refine AllReadyH.cons rfl (fun K hK => ?_) AllReadyH.nil
        rw [if_pos (by rfl)]
        simp only [List.getElem_toArray, List.getElem_cons_succ, List.getElem_cons_zero]
        go_wp2_with fail
        refine hK.out _ _ (hHeld.alloc hHeld.size _) (fun hHeld => ?_)
        try simp only [Act.put, List.getElem_toArray, List.getElem_cons_succ, List.getElem_cons_zero, List.setIfInBounds_toArray, List.set_cons_zero, List.set_cons_succ]
        refine wpAnyH_ready (rs := [11]) (by kernel_rfl) (by simp) ?_
        refine AllReadyH.cons rfl (fun K hK => ?_) AllReadyH.nil
        rw [if_pos (by rfl)]
        simp only [List.getElem_toArray, List.getElem_cons_succ, List.getElem_cons_zero]
        go_wp2_with fail
        refine (CF.out w30).mono ?_
        rintro e w32 ⟨rfl, hb32⟩
        go_wp2_with fail
        refine hK.out _ _ (hHeld.trans (hb32.mono hHeld.size)) (fun hHeld => ?_)
        try simp only [Act.put, List.getElem_toArray, List.getElem_cons_succ, List.getElem_cons_zero, List.setIfInBounds_toArray, List.set_cons_zero, List.set_cons_succ]
        refine wpAnyH_take (i := 12) (v := .string (str (stT p h (bodyT l (p ++ [32, 32]))))) rfl (by kernel_rfl) (by kernel_rfl) (by kernel_rfl) (fun _ _ _ h => h) (Or.inl ⟨by rfl, ?ye3212⟩) hHeld ?_
        case ye3212 => intro w hSw; go_simp
        simp only [Act.put, List.getElem_toArray, List.getElem_cons_succ, List.getElem_cons_zero, List.setIfInBounds_toArray, List.set_cons_zero, List.set_cons_succ]
        refine wpAnyH_done (by kernel_rfl) ?_ _
        have BB := Lib.hid (B2.out.trans (hHeld.mono B2.out.size))
        clear hHeld
        go_wp2
        go_ret
        exact ⟨rfl, BB.out⟩
    ·
      rw [if_pos (by rfl)]
      simp only [List.getElem_toArray, List.getElem_cons_succ, List.getElem_cons_zero]
      go_wp2_with fail
      obtain ⟨w33, hW33⟩ : ∃ W, w21.alloc (.cells #[.string Pd, .string (⟨#[125]⟩ : ByteArray)] 9) = W := ⟨_, rfl⟩
      have T33 : Hid (TV w33 0 (.slice (some ⟨w21.heap.size, 0, Option.none⟩) 2 2) [Pd, ⟨#[125]⟩]) := Lib.hid (by rw [← hW33]; exact TV.new w21 [Pd, ⟨#[125]⟩] 9 2 2 rfl)
      have hb33 : Below w21.heap.size w21 w33 := by rw [← hW33]; exact alloc_below _ _
      rw [hW33]
      have T33x4 := Lib.hid (T21.out.later hb33)
      refine hK.out _ _ (hHeld.trans (hb33.mono hHeld.size)) (fun hHeld => ?_)
      try simp only [Act.put, List.getElem_toArray, List.getElem_cons_succ, List.getElem_cons_zero, List.setIfInBounds_toArray, List.set_cons_zero, List.set_cons_succ]
      clear hb33 hW33
      refine wpAnyH_ready (rs := [5]) (by kernel_rfl) (by simp) ?_
      refine AllReadyH.cons rfl (fun K hK => ?_) AllReadyH.nil
      rw [if_pos (by rfl)]
      simp only [List.getElem_toArray, List.getElem_cons_succ, List.getElem_cons_zero]
      go_wp2_with fail
      refine (CP.out _ _ T33x4.out).mono ?_
      rintro e w34 ⟨rfl, hb34⟩
      go_wp2_with fail
      have T34x8 := Lib.hid (T33.out.later hb34)
      refine hK.out _ _ (hHeld.trans (hb34.mono hHeld.size)) (fun hHeld => ?_)
      try simp only [Act.put, List.getElem_toArray, List.getElem_cons_succ, List.getElem_cons_zero, List.setIfInBounds_toArray, List.set_cons_zero, List.set_cons_succ]
      refine wpAnyH_ready (rs := [6]) (by kernel_rfl) (by simp) ?_
      refine AllReadyH.cons rfl (fun K hK => ?_) AllReadyH.nil
      rw [if_pos (by rfl)]
      simp only [List.getElem_toArray, List.getElem_cons_succ, List.getElem_cons_zero]
      go_wp2_with fail
      refine (CB.out _ (hw1 _ hHeld)).mono ?_
      rintro e w35 ⟨rfl, hb35⟩
      go_wp2_with fail
      have T35x8 := Lib.hid (T34x8.out.later hb35)
      refine hK.out _ _ (hHeld.trans (hb35.mono hHeld.size)) (fun hHeld => ?_)
      try simp only [Act.put, List.getElem_toArray, List.getElem_cons_succ, List.getElem_cons_zero, List.setIfInBounds_toArray, List.set_cons_zero, List.set_cons_succ]
      refine wpAnyH_ready (rs := [9]) (by kernel_rfl) (by simp) ?_
      refine AllReadyH.cons rfl (fun K hK => ?_) AllReadyH.nil
      rw [if_pos (by rfl)]
      simp only [List.getElem_toArray, List.getElem_cons_succ, List.getElem_cons_zero]
      go_wp2_with fail
      refine (CE.out _ _ T35x8.out).mono ?_
      rintro e w36 ⟨rfl, hb36⟩
      go_wp2_with fail
      refine hK.out _ _ (hHeld.trans (hb36.mono hHeld.size)) (fun hHeld => ?_)
      try simp only [Act.put, List.getElem_toArray, List.getElem_cons_succ, List.getElem_cons_zero, List.setIfInBounds_toArray, List.set_cons_zero, List.set_cons_succ]
      refine wpAnyH_ready (rs := [10]) (by kernel_rfl) (by simp) ?_
      refine AllReadyH.cons rfl (fun K hK => ?_) AllReadyH.nil
      rw [if_pos (by rfl)]
      simp only [List.getElem_toArray, List.getElem_cons_succ, List.getElem_cons_zero]
      go_wp2_with fail
      refine hK.out _ _ (hHeld.alloc hHeld.size _) (fun hHeld => ?_)
      try simp only [Act.put, List.getElem_toArray, List.getElem_cons_succ, List.getElem_cons_zero, List.setIfInBounds_toArray, List.set_cons_zero, List.set_cons_succ]
      refine wpAnyH_ready (rs := [11]) (by kernel_rfl) (by simp) ?_
      refine AllReadyH.cons rfl (fun K hK => ?_) AllReadyH.nil
      rw [if_pos (by rfl)]
      simp only [List.getElem_toArray, List.getElem_cons_succ, List.getElem_cons_zero]
      go_wp2_with fail
      refine (CF.out w36).mono ?_
      rintro e w38 ⟨rfl, hb38⟩
      go_wp2_with fail
      refine hK.out _ _ (hHeld.trans (hb38.mono hHeld.size)) (fun hHeld => ?_)
      try simp only [Act.put, List.getElem_toArray, List.getElem_cons_succ, List.getElem_cons_zero, List.setIfInBounds_toArray, List.set_cons_zero, List.set_cons_succ]
      refine wpAnyH_take (i := 12) (v := .string (str (stT p h (bodyT l (p ++ [32, 32]))))) rfl (by kernel_rfl) (by kernel_rfl) (by kernel_rfl) (fun _ _ _ h => h) (Or.inl ⟨by rfl, ?ye3812⟩) hHeld ?_
      case ye3812 => intro w hSw; go_simp
      simp only [Act.put, List.getElem_toArray, List.getElem_cons_succ, List.getElem_cons_zero, List.setIfInBounds_toArray, List.set_cons_zero, List.set_cons_succ]
      refine wpAnyH_done (by kernel_rfl) ?_ _
      have BB := Lib.hid (B2.out.trans (hHeld.mono B2.out.size))
      clear hHeld
      go_wp2
      go_ret
      exact ⟨rfl, BB.out⟩
  ·
    rw [if_pos (by rfl)]
    simp only [List.getElem_toArray, List.getElem_cons_succ, List.getElem_cons_zero]
    go_wp2_with fail
    obtain ⟨w39, hW39⟩ : ∃ W, wd.alloc (.cells #[.string Pd, .string (⟨#[125]⟩ : ByteArray)] 9) = W := ⟨_, rfl⟩
    have T39 : Hid (TV w39 0 (.slice (some ⟨wd.heap.size, 0, Option.none⟩) 2 2) [Pd, ⟨#[125]⟩]) := Lib.hid (by rw [← hW39]; exact TV.new wd [Pd, ⟨#[125]⟩] 9 2 2 rfl)
    have hb39 : Below wd.heap.size wd w39 := by rw [← hW39]; exact alloc_below _ _
    rw [hW39]
    refine hK.out _ _ (hHeld.trans (hb39.mono hHeld.size)) (fun hHeld => ?_)
    try simp only [Act.put, List.getElem_toArray, List.getElem_cons_succ, List.getElem_cons_zero, List.setIfInBounds_toArray, List.set_cons_zero, List.set_cons_succ]
    clear hb39 hW39
    refine wpAnyH_ready (rs := [4]) (by kernel_rfl) (by simp) ?_
    refine AllReadyH.cons rfl (fun K hK => ?_) AllReadyH.nil
    rw [if_pos (by rfl)]
    simp only [List.getElem_toArray, List.getElem_cons_succ, List.getElem_cons_zero]
    go_wp2_with fail
    obtain ⟨w40, hW40⟩ : ∃ W, w39.alloc (.cells #[.string Pd, .string (⟨#[32, 32]⟩ : ByteArray)] 9) = W := ⟨_, rfl⟩
    have T40 : Hid (TV w40 0 (.slice (some ⟨w39.heap.size, 0, Option.none⟩) 2 2) [Pd, ⟨#[32, 32]⟩]) := Lib.hid (by rw [← hW40]; exact TV.new w39 [Pd, ⟨#[32, 32]⟩] 9 2 2 rfl)
    have hb40 : Below w39.heap.size w39 w40 := by rw [← hW40]; exact alloc_below _ _
    rw [hW40]
    have T40x8 := Lib.hid (T39.out.later hb40)
    refine hK.out _ _ (hHeld.trans (hb40.mono hHeld.size)) (fun hHeld => ?_)
    try simp only [Act.put, List.getElem_toArray, List.getElem_cons_succ, List.getElem_cons_zero, List.setIfInBounds_toArray, List.set_cons_zero, List.set_cons_succ]
    clear hb40 hW40
    refine wpAnyH_ready (rs := [5]) (by kernel_rfl) (by simp) ?_
    refine AllReadyH.cons rfl (fun K hK => ?_) AllReadyH.nil
    rw [if_pos (by rfl)]
    simp only [List.getElem_toArray, List.getElem_cons_succ, List.getElem_cons_zero]
    go_wp2_with fail
    refine (CP.out _ _ T40.out).mono ?_
    rintro e w41 ⟨rfl, hb41⟩
    go_wp2_with fail
    have T41x8 := Lib.hid (T40x8.out.later hb41)
    refine hK.out _ _ (hHeld.trans (hb41.mono hHeld.size)) (fun hHeld => ?_)
    try simp only [Act.put, List.getElem_toArray, List.getElem_cons_succ, List.getElem_cons_zero, List.setIfInBounds_toArray, List.set_cons_zero, List.set_cons_succ]
    refine wpAnyH_ready (rs := [6]) (by kernel_rfl) (by simp) ?_
    refine AllReadyH.cons rfl (fun K hK => ?_) AllReadyH.nil
    rw [if_pos (by rfl)]
    simp only [List.getElem_toArray, List.getElem_cons_succ, List.getElem_cons_zero]
    go_wp2_with fail
    refine (CB.out _ (hw1 _ hHeld)).mono ?_
    rintro e w42 ⟨rfl, hb42⟩
    go_wp2_with fail
    have T42x8 := Lib.hid (T41x8.out.later hb42)
    refine hK.out _ _ (hHeld.trans (hb42.mono hHeld.size)) (fun hHeld => ?_)
    try simp only [Act.put, List.getElem_toArray, List.getElem_cons_succ, List.getElem_cons_zero, List.setIfInBounds_toArray, List.set_cons_zero, List.set_cons_succ]
    refine wpAnyH_ready (rs := [9]) (by kernel_rfl) (by simp) ?_
    refine AllReadyH.cons rfl (fun K hK => ?_) AllReadyH.nil
    rw [if_pos (by rfl)]
    simp only [List.getElem_toArray, List.getElem_cons_succ, List.getElem_cons_zero]
    go_wp2_with fail
    refine (CE.out _ _ T42x8.out).mono ?_
    rintro e w43 ⟨rfl, hb43⟩
    go_wp2_with fail
    refine hK.out _ _ (hHeld.trans (hb43.mono hHeld.size)) (fun hHeld => ?_)
    try simp only [Act.put, List.getElem_toArray, List.getElem_cons_succ, List.getElem_cons_zero, List.setIfInBounds_toArray, List.set_cons_zero, List.set_cons_succ]
    refine wpAnyH_ready (rs := [10]) (by kernel_rfl) (by simp) ?_
    refine AllReadyH.cons rfl (fun K hK => ?_) AllReadyH.nil
    rw [if_pos (by rfl)]
    simp only [List.getElem_toArray, List.getElem_cons_succ, List.getElem_cons_zero]
    go_wp2_with fail
    refine hK.out _ _ (hHeld.alloc hHeld.size _) (fun hHeld => ?_)
    try simp only [Act.put, List.getElem_toArray, List.getElem_cons_succ, List.getElem_cons_zero, List.setIfInBounds_toArray, List.set_cons_zero, List.set_cons_succ]
    refine wpAnyH_ready (rs := [11]) (by kernel_rfl) (by simp) ?_
    refine AllReadyH.cons rfl (fun K hK => ?_) AllReadyH.nil
    rw [if_pos (by rfl)]
    simp only [List.getElem_toArray, List.getElem_cons_succ, List.getElem_cons_zero]
    go_wp2_with fail
    refine (CF.out w43).mono ?_
    rintro e w45 ⟨rfl, hb45⟩
    go_wp2_with fail
    refine hK.out _ _ (hHeld.trans (hb45.mono hHeld.size)) (fun hHeld => ?_)
    try simp only [Act.put, List.getElem_toArray, List.getElem_cons_succ, List.getElem_cons_zero, List.setIfInBounds_toArray, List.set_cons_zero, List.set_cons_succ]
    refine wpAnyH_take (i := 12) (v := .string (str (stT p h (bodyT l (p ++ [32, 32]))))) rfl (by kernel_rfl) (by kernel_rfl) (by kernel_rfl) (fun _ _ _ h => h) (Or.inl ⟨by rfl, ?ye4512⟩) hHeld ?_
    case ye4512 => intro w hSw; go_simp
    simp only [Act.put, List.getElem_toArray, List.getElem_cons_succ, List.getElem_cons_zero, List.setIfInBounds_toArray, List.set_cons_zero, List.set_cons_succ]
    refine wpAnyH_done (by kernel_rfl) ?_ _
    have BB := Lib.hid (B2.out.trans (hHeld.mono B2.out.size))
    clear hHeld
    go_wp2
    go_ret
    exact ⟨rfl, BB.out⟩
set_option maxHeartbeats 1000000 in
set_option maxRecDepth 100000 in
theorem stmtText_3 (d : Nat) (ih : BodyI d) (h : SH) (l : SF) (hs : h.s.size ≤ 6) (hok : headOk h = true) (hk : h.k = 3) (q3 : expOk h.x3 = true) (q4 : expOk h.x4 = true) (hl : toldS d l = true) (hln : snodes l ≤ 40) (p : List UInt8) (hp : p.length + 2 * (d + 1) ≤ 6) (w : World) (v1 v2 v3 v4 v : Value) (hv : HV w 0 h v1 v2 v3 v4) (hvl : SV w 0 l v) (hT : TabT w) :
    Calls Tryz.prog 45 #[sagg h v1 v2 v3 v4 v, .string (str p)] w fun e w' => e = .returned (.string (str (stT p h (bodyT l (p ++ [32, 32]))))) ∧ Below w.heap.size w w' := by
  have B := Lib.hid (alloc_below w (.cells (#[.int .i64 3, .string h.s, .int .i64 h.x1.h.k, .int .i64 h.x1.h.n, .string h.x1.h.s, v1, .int .i64 h.x2.h.k, .int .i64 h.x2.h.n, .string h.x2.h.s, v2, .int .i64 h.x3.h.k, .int .i64 h.x3.h.n, .string h.x3.h.s, v3, .int .i64 h.x4.h.k, .int .i64 h.x4.h.n, .string h.x4.h.s, v4, v]) 67))
  obtain ⟨w1, W1⟩ : ∃ w1, Hid (w1 = w.alloc (.cells (#[.int .i64 3, .string h.s, .int .i64 h.x1.h.k, .int .i64 h.x1.h.n, .string h.x1.h.s, v1, .int .i64 h.x2.h.k, .int .i64 h.x2.h.n, .string h.x2.h.s, v2, .int .i64 h.x3.h.k, .int .i64 h.x3.h.n, .string h.x3.h.s, v3, .int .i64 h.x4.h.k, .int .i64 h.x4.h.n, .string h.x4.h.s, v4, v]) 67)) := ⟨_, rfl⟩
  have RG := Lib.hid (show w1.rangeAt w.heap.size 0 (scells h v1 v2 v3 v4 v) by rw [W1.out, show scells h v1 v2 v3 v4 v = [.int .i64 3, .string h.s, .int .i64 h.x1.h.k, .int .i64 h.x1.h.n, .string h.x1.h.s, v1, .int .i64 h.x2.h.k, .int .i64 h.x2.h.n, .string h.x2.h.s, v2, .int .i64 h.x3.h.k, .int .i64 h.x3.h.n, .string h.x3.h.s, v3, .int .i64 h.x4.h.k, .int .i64 h.x4.h.n, .string h.x4.h.s, v4, v] by unfold scells; rw [hk]; rfl]; exact new_range w (#[.int .i64 3, .string h.s, .int .i64 h.x1.h.k, .int .i64 h.x1.h.n, .string h.x1.h.s, v1, .int .i64 h.x2.h.k, .int .i64 h.x2.h.n, .string h.x2.h.s, v2, .int .i64 h.x3.h.k, .int .i64 h.x3.h.n, .string h.x3.h.s, v3, .int .i64 h.x4.h.k, .int .i64 h.x4.h.n, .string h.x4.h.s, v4, v]) 67)
  have B1 := Lib.hid (show Below w.heap.size w w1 by rw [W1.out]; exact B.out)
  have HT1 := Lib.hid (hT.later B1.out)
  obtain ⟨Pd, HPd⟩ : ∃ Pd, Hid (str p = Pd) := ⟨_, rfl⟩
  have ck : w1.cell? ⟨w.heap.size, 0, Option.none⟩ = some (.int .i64 h.k) := (sx0 RG.out).1
  have CL0 := loopText_of d ih h l hs hok hk q3 q4 hl hln p hp w1 v1 v2 v3 v4 v (hv.later B1.out) (hvl.later B1.out) HT1.out
  rw [HPd.out, show sagg h v1 v2 v3 v4 v = .agg (#[.int .i64 3, .string h.s, .int .i64 h.x1.h.k, .int .i64 h.x1.h.n, .string h.x1.h.s, v1, .int .i64 h.x2.h.k, .int .i64 h.x2.h.n, .string h.x2.h.s, v2, .int .i64 h.x3.h.k, .int .i64 h.x3.h.n, .string h.x3.h.s, v3, .int .i64 h.x4.h.k, .int .i64 h.x4.h.n, .string h.x4.h.s, v4, v]) by unfold sagg; rw [hk]] at CL0
  have CL := Lib.hid CL0
  clear CL0
  have RG3 : Hid (w1.rangeAt w.heap.size 0 ((#[.int .i64 3, .string h.s, .int .i64 h.x1.h.k, .int .i64 h.x1.h.n, .string h.x1.h.s, v1, .int .i64 h.x2.h.k, .int .i64 h.x2.h.n, .string h.x2.h.s, v2, .int .i64 h.x3.h.k, .int .i64 h.x3.h.n, .string h.x3.h.s, v3, .int .i64 h.x4.h.k, .int .i64 h.x4.h.n, .string h.x4.h.s, v4, v])).toList) := Lib.hid (by have := RG.out; rw [show scells h v1 v2 v3 v4 v = ((#[.int .i64 3, .string h.s, .int .i64 h.x1.h.k, .int .i64 h.x1.h.n, .string h.x1.h.s, v1, .int .i64 h.x2.h.k, .int .i64 h.x2.h.n, .string h.x2.h.s, v2, .int .i64 h.x3.h.k, .int .i64 h.x3.h.n, .string h.x3.h.s, v3, .int .i64 h.x4.h.k, .int .i64 h.x4.h.n, .string h.x4.h.s, v4, v])).toList by unfold scells; rw [hk]; rfl] at this; exact this)
  rw [HPd.out]
  rw [hk] at ck
  clear hv hvl hT B ih
  go_enter Tryz.func45, Tryz.ntmps45
  go_wp2_with (refine wpList_load_mid rfl 67 _ rfl w.heap.size 0 rfl ((#[.int .i64 3, .string h.s, .int .i64 h.x1.h.k, .int .i64 h.x1.h.n, .string h.x1.h.s, v1, .int .i64 h.x2.h.k, .int .i64 h.x2.h.n, .string h.x2.h.s, v2, .int .i64 h.x3.h.k, .int .i64 h.x3.h.n, .string h.x3.h.s, v3, .int .i64 h.x4.h.k, .int .i64 h.x4.h.n, .string h.x4.h.s, v4, v])).toList _ (by rw [← W1.out]; exact RG3.out) Tryz.underlying67 rfl sizeIS ?_)
  rw [← W1.out]
  clear W1 ck
  refine CL.out.mono ?_
  rintro e w2 ⟨rfl, hb2⟩
  have B2 := Lib.hid (B1.out.trans (hb2.mono B1.out.size))
  clear hb2 CL
  go_wp2
  go_ret
  exact ⟨rfl, B2.out⟩
theorem stmtText_is (d : Nat) (ih : ∀ d', d' < d → BodyI d') (h : SH) (l : SF) (hok : headOk h = true) (hq : (h.k = 3 ∧ 1 ≤ d ∧ toldS (d - 1) l = true) ∨ (¬ h.k = 3 ∧ l = .nil)) (hln : snodes l ≤ 40) (p : List UInt8) (hp : p.length + 2 * d ≤ 6) (w : World) (v1 v2 v3 v4 v : Value) (hv : HV w 0 h v1 v2 v3 v4) (hvl : SV w 0 l v) (hT : TabT w) :
    Calls Tryz.prog 45 #[.agg (scells h v1 v2 v3 v4 v).toArray, .string (str p)] w fun e w' => e = .returned (.string (str (stT p h (bodyT l (p ++ [32, 32]))))) ∧ Below w.heap.size w w' := by
  show Calls Tryz.prog 45 #[sagg h v1 v2 v3 v4 v, .string (str p)] w _
  rcases head_cases hok with ⟨hk, hs, hx⟩ | ⟨hk, hs, hx, hy⟩ | ⟨hk, hs, hx, hy⟩ | ⟨hk, hx⟩
  · exact stmtText_1 h l hs hk hx p (by omega) w v1 v2 v3 v4 v hv hT
  · exact stmtText_2 h l hs hk hx hy p (by omega) w v1 v2 v3 v4 v hv hT
  · rcases hq with ⟨_, h1, h2⟩ | ⟨h1, _⟩
    · obtain ⟨d', rfl⟩ : ∃ d', d = d' + 1 := ⟨d - 1, by omega⟩
      exact stmtText_3 d' (ih d' (by omega)) h l hs hok hk hx hy h2 hln p hp w v1 v2 v3 v4 v hv hvl hT
    · exact absurd hk h1
  · exact stmtText_4 h l hk hx p (by omega) w v1 v2 v3 v4 v hv hT
set_option maxHeartbeats 4000000 in
set_option maxRecDepth 100000 in
theorem bodyText_step (d : Nat) (ih : ∀ d', d' < d → BodyI d') : BodyI d := by
  intro F hF hN p hp w v hv hT
  obtain ⟨i0, hi0, hz0, hz1, hz2⟩ := info_parts infoStr
  obtain ⟨b, o, ao, cap, rfl, hao, _, hin⟩ := hv
  have hlenF := slen_le F
  have hlen := bodyT_len F d p hF hp
  obtain ⟨A, HA⟩ : ∃ A, Hid (bodyT F p = A) := ⟨_, rfl⟩
  have hAl : A.length ≤ 200000 := by rw [← HA.out]; omega
  have hF40 : (slen F : Int) ≤ 40 := by omega
  have HF := Lib.hid (And.intro hF (And.intro hN hp))
  have HST := Lib.hid (stmtText_is d ih)
  have HT := Lib.hid hT
  rw [HA.out]
  obtain ⟨Pd, HPd⟩ : ∃ Pd, Hid (str p = Pd) := ⟨_, rfl⟩
  rw [HPd.out]
  clear ih hF hN hp hlen hT
  go_enter Tryz.func19, Tryz.ntmps19
  go_wp2
  go_loopw [5, 11] (fun out i wr => ∃ (R : SF) (ns : List ByteArray) (j : Nat), i = .int .i64 (j : Int) ∧ Hid (j + slen R = slen F ∧ snodes R ≤ 40 ∧ toldS d R = true ∧ catT ns ++ bodyT R p = A ∧ SIn w 0 R b (o + j * 19) ∧ ns.length = j) ∧ wr.ownsRow w.heap.size 9 1 out ns.length (ns.map Value.string) ∧ Below w.heap.size w wr) (fun _ i _ => slen F - (RowKit.intOf i).toNat)
  case atStart => exact ⟨F, [], 0, rfl, ⟨by omega, HF.out.2.1, HF.out.1, by show [] ++ _ = _; rw [List.nil_append]; exact HA.out, by simpa using hin, rfl⟩, ⟨rfl, .inr ⟨w.heap.size, 0, #[], rfl, Nat.le_refl _, (by show (w.heap.push _)[w.heap.size]? = _; simp), Nat.le_refl _, (by unfold maxLen; omega), rfl, rfl⟩⟩, alloc_below _ _⟩
  case round =>
    obtain ⟨R, ns, j, rfl, hr, hown, hbw⟩ := hrel
    obtain ⟨e1, e2, e3, e4, e5, e6⟩ := hr.out
    have HP := Lib.hid HF.out.2.2
    obtain ⟨oa, oc, rfl⟩ := ownShape hown
    clear HA hr HF
    cases R with
    | nil =>
      have hk : ¬ (j : Int) < (slen F : Int) := by simp only [slen] at e1; omega
      have E := Lib.hid (show catT ns = A by rw [← e4]; simp [bodyT])
      have CJ := Lib.hid (joined_is ns (by omega) (by rw [E.out]; omega) _ wr (TV.of hown).low)
      rw [E.out] at CJ
      have BW := Lib.hid hbw
      clear e1 e2 e3 e4 e5 e6 hown hbw
      go_wp2_with fail
      refine CJ.out.mono ?_
      rintro e w1 ⟨rfl, hb1⟩
      have B1 := Lib.hid (BW.out.trans (hb1.mono BW.out.size))
      clear hb1 CJ
      go_wp2
      go_ret
      exact ⟨rfl, B1.out⟩
    | node n1 n2 h l r =>
      have hlt : (j : Int) < (slen F : Int) := by simp only [slen] at e1; omega
      have hj0 : (0 : Int) ≤ (j : Int) := by omega
      have hne1 : ¬ F = .nil := by intro e; rw [e] at e1; simp only [slen] at e1; omega
      obtain rfl : ao = some ⟨b, o, Option.none⟩ := hao.resolve_right hne1
      obtain ⟨v1, v2, v3, v4, u, hv0, hu0, hrg0⟩ := SC.range (SIn_node.1 e5).1
      have Hrg := Lib.hid (rangeAt_later hrg0 hbw)
      have o1 := hv0.e1.isOne; have o2 := hv0.e2.isOne; have o3 := hv0.e3.isOne; have o4 := hv0.e4.isOne; have o5 := hu0.isOne
      obtain ⟨q1, q2, q3⟩ := toldS_parts e3
      simp only [snodes] at e2
      obtain ⟨T, HTT⟩ : ∃ T, Hid (str (stT p h (bodyT l (p ++ [32, 32]))) = T) := ⟨_, Lib.hid rfl⟩
      have eT : T.data.toList = stT p h (bodyT l (p ++ [32, 32])) := by rw [← HTT.out, str_list]
      have He : Hid (j + 1 + slen r = slen F ∧ snodes r ≤ 40 ∧ toldS d r = true ∧ catT (ns ++ [T]) ++ bodyT r p = A ∧ SIn w 0 r b (o + (j + 1) * 19) ∧ (ns ++ [T]).length = j + 1) := ⟨by simp only [slen] at e1; omega, by omega, q2, by rw [catT_app, ← e4, bodyT_node, List.append_assoc]; simp only [catT, eT, List.append_nil], by have := (SIn_node.1 e5).2; rw [show o + (j + 1) * 19 = o + j * 19 + 19 by omega]; exact this, by rw [List.length_append, e6]; rfl⟩
      have CS : Hid (∀ W, Below w.heap.size w W → Calls Tryz.prog 45 #[.agg (scells h v1 v2 v3 v4 u).toArray, .string Pd] W fun e w' => e = .returned (.string T) ∧ Below W.heap.size W w') := Lib.hid fun W hW => by rw [← HTT.out, ← HPd.out]; exact HST.out h l q1 q3 (by omega) p HP.out W v1 v2 v3 v4 u (hv0.later hW) (hu0.later hW) (HT.out.later hW)
      have hol : (ns.length : Int) ≤ 40 := by omega
      have HO := Lib.hid (And.intro hown hbw)
      clear e1 e2 e3 e4 e5 e6 hne1 hv0 hu0 hrg0 hao hin q1 q2 q3 hlenF eT hown hbw HTT
      go_wp2_with (first | (refine wpList_load_mid rfl 67 _ rfl b (o + j * 19) rfl _ _ Hrg.out Tryz.underlying67 rfl sizeIS ?_) | (refine store_abs rfl 67 _ _ rfl wr.heap.size 0 (scells h v1 v2 v3 v4 u).toArray rfl rfl (newthere wr _) sizeIS (oneS h v1 v2 v3 v4 _ o1 o2 o3 o4 o5) ?_; intro W hW; have HW := Lib.hid (newblkS h v1 v2 v3 v4 _ hW); clear hW) | (refine wpList_load_mid rfl 67 _ rfl wr.heap.size 0 rfl _ _ HW.out.1 Tryz.underlying67 rfl sizeIS ?_))
      have BW := Lib.hid (HO.out.2.trans (HW.out.2.mono HO.out.2.size))
      have OW := Lib.hid (ownB HO.out.1 HW.out.2)
      refine (CS.out _ BW.out).mono ?_
      rintro e w3 ⟨rfl, hb3⟩
      have hown := ownB OW.out hb3
      have hbr := BW.out.trans (hb3.mono BW.out.size)
      have hsz := hbr.size
      clear hb3 CS OW BW HO HW Hrg
      go_wp2_with (at_builtin; refine wpList_append_own _ rfl _ _ 56 rfl w.heap.size 9 i0 _ 1 16 Tryz.underlying56 hi0 hz0 hz1 hz2 rfl (by decide) _ _ _ rfl (hown.alloc _) ⟨w3.heap.size, 0, Option.none⟩ 1 1 [.string T] rfl rfl (newT _ _ _) ?cb2 ?cb3 ?cb4 ?cb5 ?_)
      case cb2 => first | rfl | (intro x hx; simp only [List.mem_cons, List.not_mem_nil, or_false] at hx; subst hx; rfl)
      case cb3 => unfold maxLen; omega
      case cb4 => omega
      case cb5 => first | omega | (simp; omega)
      intro v' w6 hown' hgrow _
      obtain ⟨m1, m2⟩ := snocT hown hbr hgrow hown'
      clear hown' hgrow hown hbr
      go_wp2
      go_roundw
      case rel => exact ⟨r, ns ++ [T], j + 1, by go_num, He, m1, m2⟩
      case measure => simp [RowKit.intOf]; omega
theorem bodyText_all (d : Nat) : BodyI d := Nat.strongRecOn d fun d ih => bodyText_step d ih
end Go.Proofs.YtkhccpjkajhnpabGreatDoor
