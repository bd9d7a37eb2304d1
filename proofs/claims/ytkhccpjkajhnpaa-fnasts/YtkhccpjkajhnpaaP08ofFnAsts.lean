/-
  Texts in one: AstDrawE, AstDrawT, AstDrawEE, AstDrawSS.
-/
import Derived.Test.YtkhccpjkajhnpaaP06ofFnAsts
import Derived.Test.YtkhccpjkajhnpaaAstAnyS
import Derived.Test.YtkhccpjkajhnpaaP05ofFnAsts
/-
  The contract of DrawExpOk.
-/
namespace Go.Proofs.Ytkhccpjkajhnpaa
open Go.RowKit Go.Lib
set_option linter.unusedSimpArgs false
set_option linter.unusedVariables false

/-- An expression was drawn out of bytes that came in; nothing that was there has turned. -/
def DrawnE (lim : Nat) (w : World) (e : Ending) (w' : World) : Prop := ∃ (x : X) (v : Value), e = .returned (.agg (xcells x v).toArray) ∧ EV w' w.heap.size x.l v ∧ xsize x ≤ lim ∧ Below w.heap.size w w'
theorem Wr.belowAt {b B : Nat} {w w' : World} (h : Wr b w w') (hB : B ≤ b) (hs : B ≤ w.heap.size) : Below B w w' := ⟨h.os, h.tape, h.output, h.size, fun k hk => h.block k (by omega) (by omega)⟩
set_option maxHeartbeats 1000000 in
set_option maxRecDepth 100000 in
theorem DrawExpOk_is (a : Option Addr) (len cap : Nat) (w : World) (hlen : len ≤ 281474976710656) (hC : CodeIs w.heap.size w a len) : Calls Try.prog 5 #[.slice a len cap] w (DrawnE limA w) := by
  have HC := Lib.hid hC
  clear hC
  go_enter Try.func5, Try.ntmps5
  go_wp2_with fail
  have b0 := alloc_below w (.cells zero4 26)
  have C1 : CodeIs (w.heap.size + 1) (w.alloc (.cells zero4 26)) a len := (HC.out.later b0).mono (by omega)
  refine (l1New (w.heap.size + 1) a len cap _ hlen C1).mono ?_
  rintro e w1 ⟨rfl, hcur, hb1⟩
  have hs1 : (w.alloc (.cells zero4 26)).heap.size = w.heap.size + 1 := by simp
  rw [hs1] at hcur hb1 ⊢
  have D1 : Hid (Dw (w.heap.size + 1) a len cap (w.heap.size + 1) w1) := ⟨hlen, Nat.le_refl _, C1.later hb1, hcur⟩
  have th1 : w1.there w.heap.size 0 4 := there_later (newthere4 w 26) (by rw [hs1]; exact hb1)
  have B1 : Below w.heap.size w w1 := b0.trans (hb1.mono (by omega))
  have H1 := Lib.hid (And.intro th1 B1)
  clear C1 hcur hb1 th1 B1 b0 hs1
  go_wp2_with fail
  refine (l3Any_is (w.heap.size + 1) a len cap (w.heap.size + 1) _ D1.out).mono ?_
  rintro e w2 ⟨x2, u2, rfl, g2, s2, d2, wr2⟩
  have th2 := there_wr H1.out.1 wr2 (by omega)
  have hl : w.heap.size + 1 ≤ w1.heap.size := Nat.le_of_lt D1.out.cur.lt
  have B2 : Below w.heap.size w w2 := H1.out.2.trans (wr2.belowAt (by omega) (by omega))
  have i2 := g2.isOne
  have H2 := Lib.hid (And.intro (g2.lower hl) (And.intro s2 B2))
  clear g2 s2 d2 wr2 B2 H1 D1
  go_wp2_with (refine store_abs rfl 26 _ _ rfl _ _ _ rfl rfl ?ht sizeIE2 ?ho ?_; exact th2; exact (oneX x2 u2 i2); intro W hW; have HW := Lib.hid hW; clear hW)
  have hW := HW.out
  have rg : W.rangeAt w.heap.size 0 (xcells x2 u2) := by rw [← hW]; exact World.rangeAt_setCells_same _ _ _ _ th2
  have hlv := run_loadVar_mid W w.heap.size 0 _ _ _ rg Try.underlying26 rfl sizeIE2
  have hE : EV W w.heap.size x2.l u2 := H2.out.1.same (Nat.le_succ _) (by rw [← hW]; exact Keeps.sets _ (by omega) _ _)
  have hB : Below w.heap.size w W := by rw [← hW]; exact below_sets _ _ H2.out.2.2 (Nat.le_refl _)
  refine bodyPost_ret (v := .agg (xcells x2 u2).toArray) ?_ rfl ⟨x2, u2, rfl, hE, H2.out.2.1, hB⟩
  simp [results, Try.results5, asAddr, hlv, Act.put]
end Go.Proofs.Ytkhccpjkajhnpaa
/-
  The contracts of DrawStmtOk and DrawSize.
-/
namespace Go.Proofs.Ytkhccpjkajhnpaa
open Go.RowKit Go.Lib
set_option linter.unusedSimpArgs false
set_option linter.unusedVariables false

/-- A statement was drawn out of bytes that came in; nothing that was there has turned. -/
def DrawnSt (lim : Nat) (w : World) (e : Ending) (w' : World) : Prop := ∃ (h : SH) (l : SF) (v1 v2 v3 v4 v : Value), e = .returned (.agg (scells h v1 v2 v3 v4 v).toArray) ∧ HV w' w.heap.size h v1 v2 v3 v4 ∧ SV w' w.heap.size l v ∧ hsize h + ssize l ≤ lim ∧ Below w.heap.size w w'
def DrawnRow (lim : Nat) (w : World) (e : Ending) (w' : World) : Prop := ∃ (F : SF) (v : Value), e = .returned v ∧ SV w' w.heap.size F v ∧ ssize F ≤ lim ∧ Below w.heap.size w w'
set_option maxHeartbeats 1000000 in
set_option maxRecDepth 100000 in
theorem DrawStmtOk_is (a : Option Addr) (len cap : Nat) (w : World) (hlen : len ≤ 281474976710656) (hC : CodeIs w.heap.size w a len) : Calls Try.prog 6 #[.slice a len cap] w (DrawnSt limT w) := by
  have HC := Lib.hid hC
  clear hC
  go_enter Try.func6, Try.ntmps6
  go_wp2_with fail
  have b0 := alloc_below w (.cells zero19 30)
  have C1 : CodeIs (w.heap.size + 1) (w.alloc (.cells zero19 30)) a len := (HC.out.later b0).mono (by omega)
  refine (l1New (w.heap.size + 1) a len cap _ hlen C1).mono ?_
  rintro e w1 ⟨rfl, hcur, hb1⟩
  have hs1 : (w.alloc (.cells zero19 30)).heap.size = w.heap.size + 1 := by simp
  rw [hs1] at hcur hb1 ⊢
  have D1 : Hid (Dw (w.heap.size + 1) a len cap (w.heap.size + 1) w1) := ⟨hlen, Nat.le_refl _, C1.later hb1, hcur⟩
  have th1 : w1.there w.heap.size 0 19 := there_later (newthere w 30) (by rw [hs1]; exact hb1)
  have B1 : Below w.heap.size w w1 := b0.trans (hb1.mono (by omega))
  have H1 := Lib.hid (And.intro th1 B1)
  clear C1 hcur hb1 th1 B1 b0 hs1
  go_wp2_with fail
  refine (l3AnyStmt_is (w.heap.size + 1) a len cap (w.heap.size + 1) _ D1.out).mono ?_
  rintro e w2 ⟨h, l, v1, v2, v3, v4, v, rfl, g1, g2, s2, d2, wr2⟩
  have th2 := there_wr H1.out.1 wr2 (by omega)
  have hl : w.heap.size + 1 ≤ w1.heap.size := Nat.le_of_lt D1.out.cur.lt
  have B2 : Below w.heap.size w w2 := H1.out.2.trans (wr2.belowAt (by omega) (by omega))
  have io := oneS h v1 v2 v3 v4 v g1.e1.isOne g1.e2.isOne g1.e3.isOne g1.e4.isOne g2.isOne
  have H2 := Lib.hid (And.intro (g1.lower hl) (And.intro (g2.lower hl) (And.intro s2 B2)))
  clear g1 g2 s2 d2 wr2 B2 H1 D1
  go_wp2_with (refine store_abs rfl 30 _ _ rfl _ _ _ rfl rfl ?ht sizeIS ?ho ?_; exact th2; exact io; intro W hW; have HW := Lib.hid hW; clear hW)
  have hW := HW.out
  have rg : W.rangeAt w.heap.size 0 (scells h v1 v2 v3 v4 v) := by rw [← hW]; exact World.rangeAt_setCells_same _ _ _ _ th2
  have hlv := run_loadVar_mid W w.heap.size 0 _ _ _ rg Try.underlying30 rfl sizeIS
  have hk : Keeps (w.heap.size + 1) w2 W := by rw [← hW]; exact Keeps.sets _ (by omega) _ _
  have hB : Below w.heap.size w W := by rw [← hW]; exact below_sets _ _ H2.out.2.2.2 (Nat.le_refl _)
  refine bodyPost_ret (v := .agg (scells h v1 v2 v3 v4 v).toArray) ?_ rfl ⟨h, l, v1, v2, v3, v4, v, rfl, H2.out.1.same (Nat.le_succ _) hk, H2.out.2.1.same (Nat.le_succ _) hk, H2.out.2.2.1, hB⟩
  simp [results, Try.results6, asAddr, hlv, Act.put]
  try rfl
set_option maxHeartbeats 1000000 in
set_option maxRecDepth 100000 in
theorem DrawSize_is (a : Option Addr) (len cap : Nat) (w : World) (hlen : len ≤ 281474976710656) (hC : CodeIs w.heap.size w a len) : Calls Try.prog 9 #[.slice a len cap] w (DrawnRow (4 * (limS 2 + 1)) w) := by
  have HC := Lib.hid hC
  clear hC
  go_enter Try.func9, Try.ntmps9
  go_wp2_with fail
  refine (l1New w.heap.size a len cap _ hlen HC.out).mono ?_
  rintro e w1 ⟨rfl, hcur, hb1⟩
  have D1 : Hid (Dw w.heap.size a len cap w.heap.size w1) := ⟨hlen, Nat.le_refl _, HC.out.later hb1, hcur⟩
  have B1 := Lib.hid hb1
  clear hcur hb1
  go_wp2_with fail
  refine (l3Stmts_is 2 4 (by omega) (by omega) (by omega) w.heap.size a len cap w.heap.size _ D1.out).mono ?_
  rintro e w2 ⟨F, v, rfl, g2, s2, d2, wr2, _⟩
  have hl : w.heap.size ≤ w1.heap.size := B1.out.size
  have H2 := Lib.hid (And.intro (g2.lower hl) (And.intro s2 (B1.out.trans (wr2.belowAt (Nat.le_refl _) hl))))
  clear g2 s2 d2 wr2
  go_wp2
  go_ret
  exact ⟨F, v, rfl, H2.out.1, H2.out.2.1, H2.out.2.2⟩
end Go.Proofs.Ytkhccpjkajhnpaa
/-
  The contract of DrawSameExp.
-/
namespace Go.Proofs.Ytkhccpjkajhnpaa
open Go.RowKit Go.Lib
set_option linter.unusedSimpArgs false
set_option linter.unusedVariables false

/-- Two expressions were drawn. -/
def DrawnEE (lim : Nat) (w : World) (e : Ending) (w' : World) : Prop := ∃ (x y : X) (u z : Value), e = .returned (.tuple #[.agg (xcells x u).toArray, .agg (xcells y z).toArray]) ∧ EV w' w.heap.size x.l u ∧ EV w' w.heap.size y.l z ∧ xsize x ≤ lim ∧ xsize y ≤ lim ∧ Below w.heap.size w w'
theorem two_sets {N : Nat} {w0 w W : World} {A C : List Value} (thN : w.there N 0 A.length) (th1 : w.there (N + 1) 0 C.length) (hB : Below N w0 w) (hW : (w.setCells N 0 A).setCells (N + 1) 0 C = W) : W.rangeAt N 0 A ∧ W.rangeAt (N + 1) 0 C ∧ Keeps (N + 2) w W ∧ Below N w0 W := by
  have r1 : (w.setCells N 0 A).rangeAt N 0 A := World.rangeAt_setCells_same _ _ _ _ thN
  subst hW
  refine ⟨World.rangeAt_setCells_apart r1 _ _ _ (.inl (by omega)), World.rangeAt_setCells_same _ _ _ _ (World.there_setCells th1 _ _ _), fun a v hl hc => ?_, below_sets _ _ (below_sets _ _ hB (Nat.le_refl _)) (by omega)⟩
  exact Keeps.sets _ (show N + 1 < N + 2 by omega) _ _ a v hl (Keeps.sets _ (show N < N + 2 by omega) _ _ a v hl hc)
theorem l1Once_is (B : Nat) (a : Option Addr) (len cap b : Nat) (n : Int) (w : World) (d : Dw B a len cap b w) (hn0 : 0 < n) :
    Calls Try.prog 23 #[.pointer (some ⟨b, 0, none⟩), .int .i64 n] w fun e w' => ∃ x : Bool, e = .returned (.bool x) ∧ Dw B a len cap b w' ∧ Wr b w w' := by
  refine (l1Once B a len cap b n w d.hlen d.hB d.hC d.cur hn0).mono ?_
  rintro e w' ⟨x, rfl, hc, ht⟩
  exact ⟨x, rfl, d.touch ht hc, .of_touch ht⟩
set_option maxHeartbeats 2000000 in
set_option maxRecDepth 100000 in
theorem DrawSameExp_is (a : Option Addr) (len cap : Nat) (w : World) (hlen : len ≤ 281474976710656) (hC : CodeIs w.heap.size w a len) : Calls Try.prog 7 #[.slice a len cap] w (DrawnEE limA w) := by
  have HC := Lib.hid hC
  clear hC
  go_enter Try.func7, Try.ntmps7
  go_wp2_with fail
  have b0 := (alloc_below w (.cells zero4 26)).alloc (by simp) (.cells zero4 26)
  have C1 : CodeIs (w.heap.size + 2) ((w.alloc (.cells zero4 26)).alloc (.cells zero4 26)) a len := (HC.out.later b0).mono (by omega)
  refine (l1New (w.heap.size + 2) a len cap _ hlen C1).mono ?_
  rintro e w1 ⟨rfl, hcur, hb1⟩
  have hs0 : (w.alloc (.cells zero4 26)).heap.size = w.heap.size + 1 := by simp
  have hs1 : ((w.alloc (.cells zero4 26)).alloc (.cells zero4 26)).heap.size = w.heap.size + 2 := by simp
  have t0 := there_later (newthere4 w 26) (alloc_below (w.alloc (.cells zero4 26)) (.cells zero4 26))
  have t1 := newthere4 (w.alloc (.cells zero4 26)) 26
  rw [hs0] at t1
  rw [hs1] at hcur hb1 ⊢
  have D1 : Hid (Dw (w.heap.size + 2) a len cap (w.heap.size + 2) w1) := ⟨hlen, Nat.le_refl _, C1.later hb1, hcur⟩
  have H1 := Lib.hid (And.intro (there_later t0 (by rw [hs1]; exact hb1)) (And.intro (there_later t1 (by rw [hs1]; exact hb1)) (b0.trans (hb1.mono (by omega)))))
  clear C1 hcur hb1 t0 t1 b0 hs0 hs1
  go_wp2_with fail
  refine (l3Any_is (w.heap.size + 2) a len cap (w.heap.size + 2) _ D1.out).mono ?_
  rintro e w2 ⟨x, u, rfl, g2, s2, d2, wr2⟩
  have hl : w.heap.size + 3 ≤ w1.heap.size := D1.out.cur.lt
  have io := oneX x u g2.isOne
  have H2 := Lib.hid (And.intro (there_wr H1.out.1 wr2 (by omega)) (And.intro (there_wr H1.out.2.1 wr2 (by omega)) (And.intro (H1.out.2.2.trans (wr2.belowAt (by omega) (by omega))) (And.intro (g2.lower hl) d2))))
  have hw2 := wr2.size
  clear g2 d2 wr2 H1 D1
  go_wp2_with (refine store_abs rfl 26 _ _ rfl _ _ _ rfl rfl ?ht sizeIE2 ?ho ?_; exact (newthere4 w2 _); exact io; intro W hW; have HW := Lib.hid (newblk4 x u hW); clear hW)
  obtain ⟨n5, hn5⟩ : ∃ n5, w2.heap.size = n5 := ⟨_, rfl⟩
  have HA := Lib.hid (And.intro (there_later H2.out.1 HW.out.2) (And.intro (there_later H2.out.2.1 HW.out.2) (And.intro (H2.out.2.2.1.trans (HW.out.2.mono (by omega))) (And.intro (H2.out.2.2.2.1.later HW.out.2) (And.intro (H2.out.2.2.2.2.later HW.out.2) HW.out.1)))))
  rw [hn5] at HA ⊢
  have hsW := HW.out.2.size
  clear H2 HW io
  go_wp2_with fail
  refine (l1Once_is (w.heap.size + 2) a len cap (w.heap.size + 2) 2 _ HA.out.2.2.2.2.1 (by omega)).mono ?_
  rintro e w3 ⟨ob, rfl, d3, wr3⟩
  have hA := HA.out
  have HB := Lib.hid (And.intro (there_wr hA.1 wr3 (by omega)) (And.intro (there_wr hA.2.1 wr3 (by omega)) (And.intro (hA.2.2.1.trans (wr3.belowAt (by omega) (by omega))) (And.intro (hA.2.2.2.1.wr wr3 (by omega)) (And.intro d3 (range_wr hA.2.2.2.2.2 wr3 (by omega)))))))
  have hs3 := wr3.size
  clear hA HA d3 wr3
  cases ob with
  | true =>
    go_wp2_with fail
    have bd : Below w3.heap.size w3 w3.drew := (Below.refl _ w3).drew
    have hn3 : w.heap.size + 3 ≤ n5 := by omega
    have Dd := Lib.hid (HB.out.2.2.2.2.1.later bd)
    have Ed := Lib.hid (HB.out.2.2.2.1.later bd)
    have Bd := Lib.hid (HB.out.2.2.1.trans (bd.mono (by omega)))
    have hsd := bd.size
    refine wp_region_held_drew (S := fun w' => (w'.rangeAt n5 0 (xcells x u) ∧ w'.there w.heap.size 0 4) ∧ w'.there (w.heap.size + 1) 0 4) (by kernel_rfl) ⟨⟨rangeAt_later HB.out.2.2.2.2.2 bd, there_later HB.out.1 bd⟩, there_later HB.out.2.1 bd⟩ (fun hHeld => ?_)
    refine wpAnyH_take (i := 0) (v := .agg (xcells x u).toArray) rfl (by kernel_rfl) (by kernel_rfl) (by kernel_rfl) (fun _ _ _ h => h) (yieldsIf_load_mid (by rfl) 26 _ rfl (n5) (0) rfl (xcells x u) _ (fun w h => h.1.1) Try.underlying26 rfl sizeIE2) hHeld ?_
    simp only [Act.put, List.getElem_toArray, List.getElem_cons_succ, List.getElem_cons_zero, List.setIfInBounds_toArray, List.set_cons_zero, List.set_cons_succ]
    refine wpAnyH_take (i := 1) (v := .agg (xcells x u).toArray) rfl (by kernel_rfl) (by kernel_rfl) (by kernel_rfl) (fun _ _ _ h => h) (yieldsIf_load_mid (by rfl) 26 _ rfl (n5) (0) rfl (xcells x u) _ (fun w h => h.1.1) Try.underlying26 rfl sizeIE2) hHeld ?_
    simp only [Act.put, List.getElem_toArray, List.getElem_cons_succ, List.getElem_cons_zero, List.setIfInBounds_toArray, List.set_cons_zero, List.set_cons_succ]
    clear HB
    refine wpAnyH_ready (rs := [2]) (by kernel_rfl) (by simp) ?_
    refine AllReadyH.cons rfl (fun K hK => ?_) AllReadyH.nil
    rw [if_pos (by rfl)]
    simp only [List.getElem_toArray, List.getElem_cons_succ, List.getElem_cons_zero]
    go_wp2_with fail
    refine (l3CopyExp_all _ x (Nat.le_refl _) (by have := enodes_le x.l; have := s2; simp only [xsize] at this; unfold limA at this; omega) _ u (Ed.out.lower (Nat.zero_le _))).mono ?_
    rintro e w4 ⟨F4, z4, rfl, g4, n4, q4, hb4⟩
    have B4 := Lib.hid (Bd.out.trans (hb4.mono (by omega)))
    have E4 := Lib.hid (Ed.out.later hb4)
    have G4 := Lib.hid g4
    have Q4 := Lib.hid q4
    go_wp2_with fail
    refine hK.out _ _ (⟨⟨rangeAt_later hHeld.1.1 hb4, there_later hHeld.1.2 hb4⟩, there_later hHeld.2 hb4⟩) (fun hHeld => ?_)
    try simp only [Act.put, List.getElem_toArray, List.getElem_cons_succ, List.getElem_cons_zero, List.setIfInBounds_toArray, List.set_cons_zero, List.set_cons_succ]
    obtain ⟨WE, hWE⟩ : ∃ WE, (w4.setCells w.heap.size 0 (xcells x u)).setCells (w.heap.size + 1) 0 (xcells ⟨x.h, F4⟩ z4) = WE := ⟨_, rfl⟩
    have HC := Lib.hid (two_sets (A := xcells x u) (C := xcells ⟨x.h, F4⟩ z4) hHeld.1.2 hHeld.2 B4.out hWE)
    refine wpAnyH_ready (rs := [3]) (by kernel_rfl) (by simp) ?_
    refine AllReadyH.cons rfl (fun K hK => ?_) AllReadyH.nil
    rw [if_pos (by rfl)]
    simp only [List.getElem_toArray, List.getElem_cons_succ, List.getElem_cons_zero]
    refine wp_store_mid 26 _ _ rfl _ _ _ rfl rfl ?hst0 sizeIE2 ?hut0 ?_
    case hst0 => exact hHeld.1.2
    case hut0 => exact oneX x u Ed.out.isOne
    refine hK.out _ _ ⟨⟨World.rangeAt_setCells_apart hHeld.1.1 _ _ _ (.inl (by omega)), World.there_setCells hHeld.1.2 _ _ _⟩, World.there_setCells hHeld.2 _ _ _⟩ (fun hHeld => ?_)
    simp only [Act.put, List.getElem_toArray, List.getElem_cons_succ, List.getElem_cons_zero, List.setIfInBounds_toArray, List.set_cons_zero, List.set_cons_succ]
    refine wpAnyH_ready (rs := [4]) (by kernel_rfl) (by simp) ?_
    refine AllReadyH.cons rfl (fun K hK => ?_) AllReadyH.nil
    rw [if_pos (by rfl)]
    simp only [List.getElem_toArray, List.getElem_cons_succ, List.getElem_cons_zero]
    refine wp_store_mid 26 _ _ rfl _ _ _ rfl rfl ?hst1 sizeIE2 ?hut1 ?_
    case hst1 => exact hHeld.2
    case hut1 => exact oneX ⟨x.h, F4⟩ z4 G4.out.isOne
    refine hK.out _ _ ⟨⟨World.rangeAt_setCells_apart hHeld.1.1 _ _ _ (.inl (by omega)), World.there_setCells hHeld.1.2 _ _ _⟩, World.there_setCells hHeld.2 _ _ _⟩ (fun hHeld => ?_)
    simp only [Act.put, List.getElem_toArray, List.getElem_cons_succ, List.getElem_cons_zero, List.setIfInBounds_toArray, List.set_cons_zero, List.set_cons_succ]
    refine wpAnyH_done (by kernel_rfl) ?_ _
    have HWE := Lib.hid hWE
    clear hHeld hWE
    go_wp2
    have rg0 := HC.out.1
    have rg1 := HC.out.2.1
    rw [← HWE.out] at rg0 rg1
    have hlv := run_loadVar_mid _ w.heap.size 0 _ _ _ rg0 Try.underlying26 rfl sizeIE2
    have hlw := run_loadVar_mid _ (w.heap.size + 1) 0 _ _ _ rg1 Try.underlying26 rfl sizeIE2
    refine bodyPost_ret (v := .tuple #[.agg (xcells x u).toArray, .agg (xcells ⟨x.h, F4⟩ z4).toArray]) ?_ rfl ⟨x, ⟨x.h, F4⟩, u, z4, rfl, ?_, ?_, ?_, ?_, ?_⟩
    · simp [results, Try.results7, asAddr, hlv, hlw, Act.put]
    · have h1 := E4.out.same (lo' := w.heap.size) (by omega) (fun a v hl hc => HC.out.2.2.1 a v (by omega) hc); rw [← HWE.out] at h1; exact h1
    · have h1 := G4.out.same (lo' := w.heap.size) (by omega) (fun a v hl hc => HC.out.2.2.1 a v (by omega) hc); rw [← HWE.out] at h1; exact h1
    · exact s2
    · have h1 := Q4.out; have h2 := s2; simp only [xsize] at h2 ⊢; rw [h1]; exact h2
    · have h1 := HC.out.2.2.2; rw [← HWE.out] at h1; exact h1
  | false =>
    go_wp2_with fail
    have bd : Below w3.heap.size w3 w3.drew := (Below.refl _ w3).drew
    have hn3 : w.heap.size + 3 ≤ n5 := by omega
    have Dd := Lib.hid (HB.out.2.2.2.2.1.later bd)
    have Ed := Lib.hid (HB.out.2.2.2.1.later bd)
    have Bd := Lib.hid (HB.out.2.2.1.trans (bd.mono (by omega)))
    have hsd := bd.size
    refine wp_region_held_drew (S := fun w' => (w'.rangeAt n5 0 (xcells x u) ∧ w'.there w.heap.size 0 4) ∧ w'.there (w.heap.size + 1) 0 4) (by kernel_rfl) ⟨⟨rangeAt_later HB.out.2.2.2.2.2 bd, there_later HB.out.1 bd⟩, there_later HB.out.2.1 bd⟩ (fun hHeld => ?_)
    refine wpAnyH_take (i := 0) (v := .agg (xcells x u).toArray) rfl (by kernel_rfl) (by kernel_rfl) (by kernel_rfl) (fun _ _ _ h => h) (yieldsIf_load_mid (by rfl) 26 _ rfl (n5) (0) rfl (xcells x u) _ (fun w h => h.1.1) Try.underlying26 rfl sizeIE2) hHeld ?_
    simp only [Act.put, List.getElem_toArray, List.getElem_cons_succ, List.getElem_cons_zero, List.setIfInBounds_toArray, List.set_cons_zero, List.set_cons_succ]
    refine wpAnyH_take (i := 1) (v := .pointer (some ⟨w.heap.size + 2, 0, Option.none⟩)) rfl (by kernel_rfl) (by kernel_rfl) (by kernel_rfl) (fun _ _ _ h => h) (Or.inl ⟨by rfl, ?yf1⟩) hHeld ?_
    case yf1 => intro w hSw; go_simp
    simp only [Act.put, List.getElem_toArray, List.getElem_cons_succ, List.getElem_cons_zero, List.setIfInBounds_toArray, List.set_cons_zero, List.set_cons_succ]
    clear HB
    refine wpAnyH_ready (rs := [2]) (by kernel_rfl) (by simp) ?_
    refine AllReadyH.cons rfl (fun K hK => ?_) AllReadyH.nil
    rw [if_pos (by rfl)]
    simp only [List.getElem_toArray, List.getElem_cons_succ, List.getElem_cons_zero]
    go_wp2_with fail
    refine (l3Any_is (w.heap.size + 2) a len cap (w.heap.size + 2) _ Dd.out).mono ?_
    rintro e w4 ⟨y4, z4, rfl, g4, q4, d4, wr4⟩
    have B4 := Lib.hid (Bd.out.trans (wr4.belowAt (by omega) (by omega)))
    have E4 := Lib.hid (Ed.out.wr wr4 (by omega))
    have G4 := Lib.hid g4
    go_wp2_with fail
    refine hK.out _ _ (⟨⟨range_wr hHeld.1.1 wr4 (by omega), there_wr hHeld.1.2 wr4 (by omega)⟩, there_wr hHeld.2 wr4 (by omega)⟩) (fun hHeld => ?_)
    try simp only [Act.put, List.getElem_toArray, List.getElem_cons_succ, List.getElem_cons_zero, List.setIfInBounds_toArray, List.set_cons_zero, List.set_cons_succ]
    obtain ⟨WE, hWE⟩ : ∃ WE, (w4.setCells w.heap.size 0 (xcells x u)).setCells (w.heap.size + 1) 0 (xcells y4 z4) = WE := ⟨_, rfl⟩
    have HC := Lib.hid (two_sets (A := xcells x u) (C := xcells y4 z4) hHeld.1.2 hHeld.2 B4.out hWE)
    refine wpAnyH_ready (rs := [3]) (by kernel_rfl) (by simp) ?_
    refine AllReadyH.cons rfl (fun K hK => ?_) AllReadyH.nil
    rw [if_pos (by rfl)]
    simp only [List.getElem_toArray, List.getElem_cons_succ, List.getElem_cons_zero]
    refine wp_store_mid 26 _ _ rfl _ _ _ rfl rfl ?hsf0 sizeIE2 ?huf0 ?_
    case hsf0 => exact hHeld.1.2
    case huf0 => exact oneX x u Ed.out.isOne
    refine hK.out _ _ ⟨⟨World.rangeAt_setCells_apart hHeld.1.1 _ _ _ (.inl (by omega)), World.there_setCells hHeld.1.2 _ _ _⟩, World.there_setCells hHeld.2 _ _ _⟩ (fun hHeld => ?_)
    simp only [Act.put, List.getElem_toArray, List.getElem_cons_succ, List.getElem_cons_zero, List.setIfInBounds_toArray, List.set_cons_zero, List.set_cons_succ]
    refine wpAnyH_ready (rs := [4]) (by kernel_rfl) (by simp) ?_
    refine AllReadyH.cons rfl (fun K hK => ?_) AllReadyH.nil
    rw [if_pos (by rfl)]
    simp only [List.getElem_toArray, List.getElem_cons_succ, List.getElem_cons_zero]
    refine wp_store_mid 26 _ _ rfl _ _ _ rfl rfl ?hsf1 sizeIE2 ?huf1 ?_
    case hsf1 => exact hHeld.2
    case huf1 => exact oneX y4 z4 G4.out.isOne
    refine hK.out _ _ ⟨⟨World.rangeAt_setCells_apart hHeld.1.1 _ _ _ (.inl (by omega)), World.there_setCells hHeld.1.2 _ _ _⟩, World.there_setCells hHeld.2 _ _ _⟩ (fun hHeld => ?_)
    simp only [Act.put, List.getElem_toArray, List.getElem_cons_succ, List.getElem_cons_zero, List.setIfInBounds_toArray, List.set_cons_zero, List.set_cons_succ]
    refine wpAnyH_done (by kernel_rfl) ?_ _
    have HWE := Lib.hid hWE
    clear hHeld hWE
    go_wp2
    have rg0 := HC.out.1
    have rg1 := HC.out.2.1
    rw [← HWE.out] at rg0 rg1
    have hlv := run_loadVar_mid _ w.heap.size 0 _ _ _ rg0 Try.underlying26 rfl sizeIE2
    have hlw := run_loadVar_mid _ (w.heap.size + 1) 0 _ _ _ rg1 Try.underlying26 rfl sizeIE2
    refine bodyPost_ret (v := .tuple #[.agg (xcells x u).toArray, .agg (xcells y4 z4).toArray]) ?_ rfl ⟨x, y4, u, z4, rfl, ?_, ?_, ?_, ?_, ?_⟩
    · simp [results, Try.results7, asAddr, hlv, hlw, Act.put]
    · have h1 := E4.out.same (lo' := w.heap.size) (by omega) (fun a v hl hc => HC.out.2.2.1 a v (by omega) hc); rw [← HWE.out] at h1; exact h1
    · have h1 := G4.out.same (lo' := w.heap.size) (by omega) (fun a v hl hc => HC.out.2.2.1 a v (by omega) hc); rw [← HWE.out] at h1; exact h1
    · exact s2
    · exact q4
    · have h1 := HC.out.2.2.2; rw [← HWE.out] at h1; exact h1
end Go.Proofs.Ytkhccpjkajhnpaa
/-
  The contract of DrawSameStmt.
-/
namespace Go.Proofs.Ytkhccpjkajhnpaa
open Go.RowKit Go.Lib
set_option linter.unusedSimpArgs false
set_option linter.unusedVariables false

/-- Two statements were drawn. -/
def DrawnSS (lim : Nat) (w : World) (e : Ending) (w' : World) : Prop := ∃ (g h : SH) (gl hl : SF) (a1 a2 a3 a4 a b1 b2 b3 b4 b : Value), e = .returned (.tuple #[.agg (scells g a1 a2 a3 a4 a).toArray, .agg (scells h b1 b2 b3 b4 b).toArray]) ∧ (HV w' w.heap.size g a1 a2 a3 a4 ∧ SV w' w.heap.size gl a) ∧ (HV w' w.heap.size h b1 b2 b3 b4 ∧ SV w' w.heap.size hl b) ∧ hsize g + ssize gl ≤ lim ∧ hsize h + ssize hl ≤ lim ∧ Below w.heap.size w w'
theorem HV.wr {b lo : Nat} {w w' : World} {h : SH} {v1 v2 v3 v4 : Value} (x : HV w lo h v1 v2 v3 v4) (hw : Wr b w w') (hlo : b + 1 ≤ lo) : HV w' lo h v1 v2 v3 v4 := ⟨x.e1.wr hw hlo, x.e2.wr hw hlo, x.e3.wr hw hlo, x.e4.wr hw hlo⟩
theorem SV.wr {b lo : Nat} {w w' : World} {F : SF} {v : Value} (h : SV w lo F v) (hw : Wr b w w') (hlo : b + 1 ≤ lo) : SV w' lo F v := h.same (Nat.le_refl _) (fun a v hl hc => hw.keeps a v (by omega) hc)
theorem SV.one {w : World} {g p q : Nat} {h : SH} {l : SF} {v1 v2 v3 v4 v : Value} (hv : HV w 0 h v1 v2 v3 v4) (hl : SV w 0 l v) (rg : w.rangeAt g 0 (scells h v1 v2 v3 v4 v)) (c : Nat) : SV w 0 (.node p q h l .nil) (.slice (some ⟨g, 0, Option.none⟩) 1 c) :=
  ⟨g, 0, _, c, rfl, .inl rfl, Nat.zero_le _, SRow.laid 0 (SRow.one hv.e1 hv.e2 hv.e3 hv.e4 hl) fun j z hj => rg j z hj⟩
set_option maxHeartbeats 1000000 in
set_option maxRecDepth 100000 in
theorem DrawSameStmt_is (a : Option Addr) (len cap : Nat) (w : World) (hlen : len ≤ 281474976710656) (hC : CodeIs w.heap.size w a len) : Calls Try.prog 8 #[.slice a len cap] w (DrawnSS limT w) := by
  have HC := Lib.hid hC
  clear hC
  go_enter Try.func8, Try.ntmps8
  go_wp2_with fail
  have b0 := (alloc_below w (.cells zero19 30)).alloc (by simp) (.cells zero19 30)
  have C1 : CodeIs (w.heap.size + 2) ((w.alloc (.cells zero19 30)).alloc (.cells zero19 30)) a len := (HC.out.later b0).mono (by omega)
  refine (l1New (w.heap.size + 2) a len cap _ hlen C1).mono ?_
  rintro e w1 ⟨rfl, hcur, hb1⟩
  have hs0 : (w.alloc (.cells zero19 30)).heap.size = w.heap.size + 1 := by simp
  have hs1 : ((w.alloc (.cells zero19 30)).alloc (.cells zero19 30)).heap.size = w.heap.size + 2 := by simp
  have t0 := there_later (newthere w 30) (alloc_below (w.alloc (.cells zero19 30)) (.cells zero19 30))
  have t1 := newthere (w.alloc (.cells zero19 30)) 30
  rw [hs0] at t1
  rw [hs1] at hcur hb1 ⊢
  have D1 : Hid (Dw (w.heap.size + 2) a len cap (w.heap.size + 2) w1) := ⟨hlen, Nat.le_refl _, C1.later hb1, hcur⟩
  have H1 := Lib.hid (And.intro (there_later t0 (by rw [hs1]; exact hb1)) (And.intro (there_later t1 (by rw [hs1]; exact hb1)) (b0.trans (hb1.mono (by omega)))))
  clear C1 hcur hb1 t0 t1 b0 hs0 hs1
  go_wp2_with fail
  refine (l3AnyStmt_is (w.heap.size + 2) a len cap (w.heap.size + 2) _ D1.out).mono ?_
  rintro e w2 ⟨h, l, v1, v2, v3, v4, v, hret, g1, g2, s2, d2, wr2⟩
  obtain ⟨va, vc, rfl⟩ := g2.shape
  obtain ⟨a1, c1, rfl⟩ := g1.e1.shape
  obtain ⟨a2, c2, rfl⟩ := g1.e2.shape
  obtain ⟨a3, c3, rfl⟩ := g1.e3.shape
  obtain ⟨a4, c4, rfl⟩ := g1.e4.shape
  obtain ⟨A, HA0⟩ : ∃ A, Hid (scells h (.slice a1 (elen h.x1.l) c1) (.slice a2 (elen h.x2.l) c2) (.slice a3 (elen h.x3.l) c3) (.slice a4 (elen h.x4.l) c4) (.slice va (slen l) vc) = A) := ⟨_, rfl⟩
  have szA : A.toArray.size = 19 := by rw [← HA0.out]; rfl
  have lnA : A.length = 19 := by rw [← HA0.out]; rfl
  obtain rfl : e = .returned (.agg A.toArray) := by rw [← HA0.out]; exact hret
  have hl : w.heap.size + 3 ≤ w1.heap.size := D1.out.cur.lt
  have io : A.toArray.all (·.oneCell') = true := by rw [← HA0.out]; exact oneS h (.slice a1 (elen h.x1.l) c1) (.slice a2 (elen h.x2.l) c2) (.slice a3 (elen h.x3.l) c3) (.slice a4 (elen h.x4.l) c4) (.slice va (slen l) vc) rfl rfl rfl rfl rfl
  have H2 := Lib.hid (And.intro (there_wr H1.out.1 wr2 (by omega)) (And.intro (there_wr H1.out.2.1 wr2 (by omega)) (And.intro (H1.out.2.2.trans (wr2.belowAt (by omega) (by omega))) (And.intro (And.intro (g1.lower hl) (g2.lower hl)) d2))))
  have hw2 := wr2.size
  clear g1 g2 d2 wr2 H1 D1
  go_wp2_with (refine store_abs rfl 30 _ _ rfl _ _ _ rfl rfl ?ht (by rw [szA]; exact sizeIS) ?ho ?_; (rw [szA]; exact (newthere w2 _)); exact io; intro W hW; have HW := Lib.hid (newblk (arr := zero19) (vs := A) (by rw [lnA]; exact Nat.le_refl 19) hW); clear hW)
  obtain ⟨n5, hn5⟩ : ∃ n5, w2.heap.size = n5 := ⟨_, rfl⟩
  have HA := Lib.hid (And.intro (there_later H2.out.1 HW.out.2) (And.intro (there_later H2.out.2.1 HW.out.2) (And.intro (H2.out.2.2.1.trans (HW.out.2.mono (by omega))) (And.intro (And.intro (H2.out.2.2.2.1.1.later HW.out.2) (H2.out.2.2.2.1.2.later HW.out.2)) (And.intro (H2.out.2.2.2.2.later HW.out.2) HW.out.1)))))
  rw [hn5] at HA ⊢
  have hsW := HW.out.2.size
  clear H2 HW
  go_wp2_with fail
  refine (l1Once_is (w.heap.size + 2) a len cap (w.heap.size + 2) 2 _ HA.out.2.2.2.2.1 (by omega)).mono ?_
  rintro e w3 ⟨ob, rfl, d3, wr3⟩
  have hA := HA.out
  have HB := Lib.hid (And.intro (there_wr hA.1 wr3 (by omega)) (And.intro (there_wr hA.2.1 wr3 (by omega)) (And.intro (hA.2.2.1.trans (wr3.belowAt (by omega) (by omega))) (And.intro (And.intro (HV.wr hA.2.2.2.1.1 wr3 (by omega)) (SV.wr hA.2.2.2.1.2 wr3 (by omega))) (And.intro d3 (range_wr hA.2.2.2.2.2 wr3 (by omega)))))))
  have hs3 := wr3.size
  clear hA HA d3 wr3
  cases ob with
  | true =>
    go_wp2_with fail
    have bd : Below w3.heap.size w3 w3.drew := (Below.refl _ w3).drew
    have hn3 : w.heap.size + 3 ≤ n5 := by omega
    have Dd := Lib.hid (HB.out.2.2.2.2.1.later bd)
    have Ed := Lib.hid (And.intro (HB.out.2.2.2.1.1.later bd) (HB.out.2.2.2.1.2.later bd))
    have Bd := Lib.hid (HB.out.2.2.1.trans (bd.mono (by omega)))
    have hsd := bd.size
    refine wp_region_held_drew (S := fun w' => (w'.rangeAt n5 0 A ∧ w'.there w.heap.size 0 19) ∧ w'.there (w.heap.size + 1) 0 19) (by kernel_rfl) ⟨⟨rangeAt_later HB.out.2.2.2.2.2 bd, there_later HB.out.1 bd⟩, there_later HB.out.2.1 bd⟩ (fun hHeld => ?_)
    refine wpAnyH_take (i := 0) (v := .agg (A).toArray) rfl (by kernel_rfl) (by kernel_rfl) (by kernel_rfl) (fun _ _ _ h => h) (yieldsIf_load_mid (by rfl) 30 _ rfl (n5) (0) rfl (A) _ (fun w h => h.1.1) Try.underlying30 rfl (by rw [lnA]; exact sizeIS)) hHeld ?_
    simp only [Act.put, List.getElem_toArray, List.getElem_cons_succ, List.getElem_cons_zero, List.setIfInBounds_toArray, List.set_cons_zero, List.set_cons_succ]
    refine wpAnyH_take (i := 1) (v := .agg ([.int .i64 h.k, .string h.s, .int .i64 h.x1.h.k, .int .i64 h.x1.h.n, .string h.x1.h.s, (.slice a1 (elen h.x1.l) c1), .int .i64 h.x2.h.k, .int .i64 h.x2.h.n, .string h.x2.h.s, (.slice a2 (elen h.x2.l) c2), .int .i64 h.x3.h.k, .int .i64 h.x3.h.n, .string h.x3.h.s, (.slice a3 (elen h.x3.l) c3), .int .i64 h.x4.h.k, .int .i64 h.x4.h.n, .string h.x4.h.s, (.slice a4 (elen h.x4.l) c4), (.slice va (slen l) vc)]).toArray) rfl (by kernel_rfl) (by kernel_rfl) (by kernel_rfl) (fun _ _ _ h => h) (yieldsIf_load_mid (by rfl) 30 _ rfl (n5) (0) rfl ([.int .i64 h.k, .string h.s, .int .i64 h.x1.h.k, .int .i64 h.x1.h.n, .string h.x1.h.s, (.slice a1 (elen h.x1.l) c1), .int .i64 h.x2.h.k, .int .i64 h.x2.h.n, .string h.x2.h.s, (.slice a2 (elen h.x2.l) c2), .int .i64 h.x3.h.k, .int .i64 h.x3.h.n, .string h.x3.h.s, (.slice a3 (elen h.x3.l) c3), .int .i64 h.x4.h.k, .int .i64 h.x4.h.n, .string h.x4.h.s, (.slice a4 (elen h.x4.l) c4), (.slice va (slen l) vc)]) _ (fun w h => (by have h1 := h.1.1; rw [← HA0.out] at h1; exact h1)) Try.underlying30 rfl sizeIS) hHeld ?_
    simp only [Act.put, List.getElem_toArray, List.getElem_cons_succ, List.getElem_cons_zero, List.setIfInBounds_toArray, List.set_cons_zero, List.set_cons_succ]
    clear HB
    have ba := alloc_below w3.drew (.cells (#[.int .i64 h.k, .string h.s, .int .i64 h.x1.h.k, .int .i64 h.x1.h.n, .string h.x1.h.s, (.slice a1 (elen h.x1.l) c1), .int .i64 h.x2.h.k, .int .i64 h.x2.h.n, .string h.x2.h.s, (.slice a2 (elen h.x2.l) c2), .int .i64 h.x3.h.k, .int .i64 h.x3.h.n, .string h.x3.h.s, (.slice a3 (elen h.x3.l) c3), .int .i64 h.x4.h.k, .int .i64 h.x4.h.n, .string h.x4.h.s, (.slice a4 (elen h.x4.l) c4), (.slice va (slen l) vc)]) 30)
    have Ea := Lib.hid (And.intro (Ed.out.1.later ba) (Ed.out.2.later ba))
    have SVN := Lib.hid (SV.one (p := 0) (q := 0) (Ea.out.1.lower (Nat.zero_le _)) (Ea.out.2.lower (Nat.zero_le _)) (new_rangeS w3.drew (#[.int .i64 h.k, .string h.s, .int .i64 h.x1.h.k, .int .i64 h.x1.h.n, .string h.x1.h.s, (.slice a1 (elen h.x1.l) c1), .int .i64 h.x2.h.k, .int .i64 h.x2.h.n, .string h.x2.h.s, (.slice a2 (elen h.x2.l) c2), .int .i64 h.x3.h.k, .int .i64 h.x3.h.n, .string h.x3.h.s, (.slice a3 (elen h.x3.l) c3), .int .i64 h.x4.h.k, .int .i64 h.x4.h.n, .string h.x4.h.s, (.slice a4 (elen h.x4.l) c4), (.slice va (slen l) vc)]) 30) 1)
    have Ba := Lib.hid (Bd.out.trans (ba.mono (by omega)))
    have hsa := ba.size
    refine wpAnyH_ready (rs := [2]) (by kernel_rfl) (by simp) ?_
    refine AllReadyH.cons rfl (fun K hK => ?_) AllReadyH.nil
    rw [if_pos (by rfl)]
    simp only [List.getElem_toArray, List.getElem_cons_succ, List.getElem_cons_zero]
    go_wp2_with fail
    refine hK.out _ _ (⟨⟨rangeAt_later hHeld.1.1 ba, there_later hHeld.1.2 ba⟩, there_later hHeld.2 ba⟩) (fun hHeld => ?_)
    try simp only [Act.put, List.getElem_toArray, List.getElem_cons_succ, List.getElem_cons_zero, List.setIfInBounds_toArray, List.set_cons_zero, List.set_cons_succ]
    refine wpAnyH_ready (rs := [3]) (by kernel_rfl) (by simp) ?_
    refine AllReadyH.cons rfl (fun K hK => ?_) AllReadyH.nil
    rw [if_pos (by rfl)]
    simp only [List.getElem_toArray, List.getElem_cons_succ, List.getElem_cons_zero]
    go_wp2_with fail
    refine (l3Copy_all _ (.node 0 0 h l .nil) (Nat.lt_succ_self _) (by have h1 := s2; have h2 := limS2; simp only [ssize]; unfold limT at h1; have h3 : limA ≤ 1000 := (by decide); omega) _ _ (by omega) SVN.out).mono ?_
    rintro e w4 ⟨G, ug, hret, gg, lg, ng, zg, hb4⟩
    obtain ⟨p, q, h4, l4, r4, hG⟩ : ∃ p q h4 l4 r4, G = .node p q h4 l4 r4 := by cases G with | nil => simp [slen] at lg | node p q h4 l4 r4 => exact ⟨p, q, h4, l4, r4, rfl⟩
    subst hG
    obtain ⟨bg, og, ao, cg, hug, hao, hlo, hin⟩ := gg
    obtain rfl : ao = some ⟨bg, og, Option.none⟩ := hao.resolve_right (by intro e; cases e)
    have hl1 : slen (.node p q h4 l4 r4 : SF) = 1 := lg
    obtain rfl : e = .returned (.slice (some ⟨bg, og, Option.none⟩) 1 cg) := by rw [hret, hug, hl1]
    obtain ⟨y1, y2, y3, y4, yv, hv4, hl4, rg4⟩ := SC.range (SIn_node.1 hin).1
    obtain ⟨C, HC0⟩ : ∃ C, Hid (scells h4 y1 y2 y3 y4 yv = C) := ⟨_, rfl⟩
    have szC : C.toArray.size = 19 := by rw [← HC0.out]; rfl
    have lnC : C.length = 19 := by rw [← HC0.out]; rfl
    have ioC : C.toArray.all (·.oneCell') = true := by rw [← HC0.out]; exact oneS h4 y1 y2 y3 y4 yv hv4.e1.isOne hv4.e2.isOne hv4.e3.isOne hv4.e4.isOne hl4.isOne
    rw [HC0.out] at rg4
    have G4 := Lib.hid (And.intro hv4 hl4)
    have Q4 : Hid (hsize h4 + ssize l4 ≤ limT) := Lib.hid (by have := s2; simp only [ssize] at zg; omega)
    have B4 := Lib.hid (Ba.out.trans (hb4.mono (by omega)))
    have E4 := Lib.hid (And.intro (Ea.out.1.later hb4) (Ea.out.2.later hb4))
    have R4 := Lib.hid rg4
    have hs4 := hb4.size
    clear lg ng zg hug hao hin hv4 hl4 rg4 hl1 hret
    go_wp2_with fail
    refine hK.out _ _ (⟨⟨rangeAt_later hHeld.1.1 hb4, there_later hHeld.1.2 hb4⟩, there_later hHeld.2 hb4⟩) (fun hHeld => ?_)
    try simp only [Act.put, List.getElem_toArray, List.getElem_cons_succ, List.getElem_cons_zero, List.setIfInBounds_toArray, List.set_cons_zero, List.set_cons_succ]
    refine wpAnyH_take (i := 4) (v := .pointer (some ⟨bg, og, Option.none⟩)) rfl (by kernel_rfl) (by kernel_rfl) (by kernel_rfl) (fun _ _ _ h => h) (Or.inl ⟨by rfl, ?yt4⟩) hHeld ?_
    case yt4 => intro w hSw; go_simp
    simp only [Act.put, List.getElem_toArray, List.getElem_cons_succ, List.getElem_cons_zero, List.setIfInBounds_toArray, List.set_cons_zero, List.set_cons_succ]
    obtain ⟨WE, hWE⟩ : ∃ WE, (w4.setCells w.heap.size 0 A).setCells (w.heap.size + 1) 0 (C) = WE := ⟨_, rfl⟩
    have HC := Lib.hid (two_sets (A := A) (C := C) (by rw [lnA]; exact hHeld.1.2) (by rw [lnC]; exact hHeld.2) B4.out hWE)
    refine wpAnyH_ready (rs := [5, 6]) (by kernel_rfl) (by simp) ?_
    refine AllReadyH.cons rfl (fun K hK => ?_) (AllReadyH.cons rfl (fun K hK => ?_) AllReadyH.nil)
    ·
      rw [if_pos (by rfl)]
      simp only [List.getElem_toArray, List.getElem_cons_succ, List.getElem_cons_zero]
      refine wp_load_mid 30 _ (by rfl) bg og (by rfl) C _ R4.out Try.underlying30 rfl (by rw [lnC]; exact sizeIS) ?_
      refine hK.out _ _ hHeld (fun hHeld => ?_)
      simp only [Act.put, List.getElem_toArray, List.getElem_cons_succ, List.getElem_cons_zero, List.setIfInBounds_toArray, List.set_cons_zero, List.set_cons_succ]
      refine wpAnyH_ready (rs := [6]) (by kernel_rfl) (by simp) ?_
      refine AllReadyH.cons rfl (fun K hK => ?_) AllReadyH.nil
      rw [if_pos (by rfl)]
      simp only [List.getElem_toArray, List.getElem_cons_succ, List.getElem_cons_zero]
      refine wp_store_mid 30 _ _ (by rfl) (w.heap.size) 0 A.toArray (by rfl) (by rfl) (by rw [szA]; exact hHeld.1.2) (by rw [szA]; exact sizeIS) io ?_
      refine hK.out _ _ ⟨⟨World.rangeAt_setCells_apart hHeld.1.1 _ _ _ (.inl (by omega)), World.there_setCells hHeld.1.2 _ _ _⟩, World.there_setCells hHeld.2 _ _ _⟩ (fun hHeld => ?_)
      simp only [Act.put, List.getElem_toArray, List.getElem_cons_succ, List.getElem_cons_zero, List.setIfInBounds_toArray, List.set_cons_zero, List.set_cons_succ]
      refine wpAnyH_ready (rs := [7]) (by kernel_rfl) (by simp) ?_
      refine AllReadyH.cons rfl (fun K hK => ?_) AllReadyH.nil
      rw [if_pos (by rfl)]
      simp only [List.getElem_toArray, List.getElem_cons_succ, List.getElem_cons_zero]
      refine wp_store_mid 30 _ _ (by rfl) (w.heap.size + 1) 0 C.toArray (by rfl) (by rfl) (by rw [szC]; exact hHeld.2) (by rw [szC]; exact sizeIS) ioC ?_
      refine hK.out _ _ ⟨⟨World.rangeAt_setCells_apart hHeld.1.1 _ _ _ (.inl (by omega)), World.there_setCells hHeld.1.2 _ _ _⟩, World.there_setCells hHeld.2 _ _ _⟩ (fun hHeld => ?_)
      simp only [Act.put, List.getElem_toArray, List.getElem_cons_succ, List.getElem_cons_zero, List.setIfInBounds_toArray, List.set_cons_zero, List.set_cons_succ]
      refine wpAnyH_done (by kernel_rfl) ?_ _
      have HWE := Lib.hid hWE
      clear hHeld hWE
      go_wp2
      have rg0 := HC.out.1
      have rg1 := HC.out.2.1
      rw [← HWE.out] at rg0 rg1
      have hlv := run_loadVar_mid _ w.heap.size 0 _ _ _ rg0 Try.underlying30 rfl (by rw [lnA]; exact sizeIS)
      have hlw := run_loadVar_mid _ (w.heap.size + 1) 0 _ _ _ rg1 Try.underlying30 rfl (by rw [lnC]; exact sizeIS)
      refine bodyPost_ret (v := .tuple #[.agg A.toArray, .agg C.toArray]) ?_ rfl ⟨h, h4, l, l4, .slice a1 (elen h.x1.l) c1, .slice a2 (elen h.x2.l) c2, .slice a3 (elen h.x3.l) c3, .slice a4 (elen h.x4.l) c4, .slice va (slen l) vc, y1, y2, y3, y4, yv, (by rw [HA0.out, HC0.out]), ?_, ?_, ?_, ?_, ?_⟩
      · simp [results, Try.results8, asAddr, hlv, hlw, Act.put]
      · have h1 := And.intro (E4.out.1.same (lo' := w.heap.size) (by omega) (fun a v hl hc => HC.out.2.2.1 a v (by omega) hc)) (E4.out.2.same (lo' := w.heap.size) (by omega) (fun a v hl hc => HC.out.2.2.1 a v (by omega) hc)); rw [← HWE.out] at h1; exact h1
      · have h1 := And.intro (G4.out.1.same (lo' := w.heap.size) (by omega) (fun a v hl hc => HC.out.2.2.1 a v (by omega) hc)) (G4.out.2.same (lo' := w.heap.size) (by omega) (fun a v hl hc => HC.out.2.2.1 a v (by omega) hc)); rw [← HWE.out] at h1; exact h1
      · exact s2
      · exact Q4.out
      · have h1 := HC.out.2.2.2; rw [← HWE.out] at h1; exact h1
    ·
      rw [if_pos (by rfl)]
      simp only [List.getElem_toArray, List.getElem_cons_succ, List.getElem_cons_zero]
      refine wp_store_mid 30 _ _ (by rfl) (w.heap.size) 0 A.toArray (by rfl) (by rfl) (by rw [szA]; exact hHeld.1.2) (by rw [szA]; exact sizeIS) io ?_
      refine hK.out _ _ ⟨⟨World.rangeAt_setCells_apart hHeld.1.1 _ _ _ (.inl (by omega)), World.there_setCells hHeld.1.2 _ _ _⟩, World.there_setCells hHeld.2 _ _ _⟩ (fun hHeld => ?_)
      simp only [Act.put, List.getElem_toArray, List.getElem_cons_succ, List.getElem_cons_zero, List.setIfInBounds_toArray, List.set_cons_zero, List.set_cons_succ]
      refine wpAnyH_ready (rs := [5]) (by kernel_rfl) (by simp) ?_
      refine AllReadyH.cons rfl (fun K hK => ?_) AllReadyH.nil
      rw [if_pos (by rfl)]
      simp only [List.getElem_toArray, List.getElem_cons_succ, List.getElem_cons_zero]
      refine wp_load_mid 30 _ (by rfl) bg og (by rfl) C _ (World.rangeAt_setCells_apart R4.out _ _ _ (.inl (by omega))) Try.underlying30 rfl (by rw [lnC]; exact sizeIS) ?_
      refine hK.out _ _ hHeld (fun hHeld => ?_)
      simp only [Act.put, List.getElem_toArray, List.getElem_cons_succ, List.getElem_cons_zero, List.setIfInBounds_toArray, List.set_cons_zero, List.set_cons_succ]
      refine wpAnyH_ready (rs := [7]) (by kernel_rfl) (by simp) ?_
      refine AllReadyH.cons rfl (fun K hK => ?_) AllReadyH.nil
      rw [if_pos (by rfl)]
      simp only [List.getElem_toArray, List.getElem_cons_succ, List.getElem_cons_zero]
      refine wp_store_mid 30 _ _ (by rfl) (w.heap.size + 1) 0 C.toArray (by rfl) (by rfl) (by rw [szC]; exact hHeld.2) (by rw [szC]; exact sizeIS) ioC ?_
      refine hK.out _ _ ⟨⟨World.rangeAt_setCells_apart hHeld.1.1 _ _ _ (.inl (by omega)), World.there_setCells hHeld.1.2 _ _ _⟩, World.there_setCells hHeld.2 _ _ _⟩ (fun hHeld => ?_)
      simp only [Act.put, List.getElem_toArray, List.getElem_cons_succ, List.getElem_cons_zero, List.setIfInBounds_toArray, List.set_cons_zero, List.set_cons_succ]
      refine wpAnyH_done (by kernel_rfl) ?_ _
      have HWE := Lib.hid hWE
      clear hHeld hWE
      go_wp2
      have rg0 := HC.out.1
      have rg1 := HC.out.2.1
      rw [← HWE.out] at rg0 rg1
      have hlv := run_loadVar_mid _ w.heap.size 0 _ _ _ rg0 Try.underlying30 rfl (by rw [lnA]; exact sizeIS)
      have hlw := run_loadVar_mid _ (w.heap.size + 1) 0 _ _ _ rg1 Try.underlying30 rfl (by rw [lnC]; exact sizeIS)
      refine bodyPost_ret (v := .tuple #[.agg A.toArray, .agg C.toArray]) ?_ rfl ⟨h, h4, l, l4, .slice a1 (elen h.x1.l) c1, .slice a2 (elen h.x2.l) c2, .slice a3 (elen h.x3.l) c3, .slice a4 (elen h.x4.l) c4, .slice va (slen l) vc, y1, y2, y3, y4, yv, (by rw [HA0.out, HC0.out]), ?_, ?_, ?_, ?_, ?_⟩
      · simp [results, Try.results8, asAddr, hlv, hlw, Act.put]
      · have h1 := And.intro (E4.out.1.same (lo' := w.heap.size) (by omega) (fun a v hl hc => HC.out.2.2.1 a v (by omega) hc)) (E4.out.2.same (lo' := w.heap.size) (by omega) (fun a v hl hc => HC.out.2.2.1 a v (by omega) hc)); rw [← HWE.out] at h1; exact h1
      · have h1 := And.intro (G4.out.1.same (lo' := w.heap.size) (by omega) (fun a v hl hc => HC.out.2.2.1 a v (by omega) hc)) (G4.out.2.same (lo' := w.heap.size) (by omega) (fun a v hl hc => HC.out.2.2.1 a v (by omega) hc)); rw [← HWE.out] at h1; exact h1
      · exact s2
      · exact Q4.out
      · have h1 := HC.out.2.2.2; rw [← HWE.out] at h1; exact h1
  | false =>
    go_wp2_with fail
    have bd : Below w3.heap.size w3 w3.drew := (Below.refl _ w3).drew
    have hn3 : w.heap.size + 3 ≤ n5 := by omega
    have Dd := Lib.hid (HB.out.2.2.2.2.1.later bd)
    have Ed := Lib.hid (And.intro (HB.out.2.2.2.1.1.later bd) (HB.out.2.2.2.1.2.later bd))
    have Bd := Lib.hid (HB.out.2.2.1.trans (bd.mono (by omega)))
    have hsd := bd.size
    refine wp_region_held_drew (S := fun w' => (w'.rangeAt n5 0 A ∧ w'.there w.heap.size 0 19) ∧ w'.there (w.heap.size + 1) 0 19) (by kernel_rfl) ⟨⟨rangeAt_later HB.out.2.2.2.2.2 bd, there_later HB.out.1 bd⟩, there_later HB.out.2.1 bd⟩ (fun hHeld => ?_)
    refine wpAnyH_take (i := 0) (v := .agg (A).toArray) rfl (by kernel_rfl) (by kernel_rfl) (by kernel_rfl) (fun _ _ _ h => h) (yieldsIf_load_mid (by rfl) 30 _ rfl (n5) (0) rfl (A) _ (fun w h => h.1.1) Try.underlying30 rfl (by rw [lnA]; exact sizeIS)) hHeld ?_
    simp only [Act.put, List.getElem_toArray, List.getElem_cons_succ, List.getElem_cons_zero, List.setIfInBounds_toArray, List.set_cons_zero, List.set_cons_succ]
    clear HB
    refine wpAnyH_take (i := 1) (v := .pointer (some ⟨w.heap.size + 2, 0, Option.none⟩)) rfl (by kernel_rfl) (by kernel_rfl) (by kernel_rfl) (fun _ _ _ h => h) (Or.inl ⟨by rfl, ?yf1⟩) hHeld ?_
    case yf1 => intro w hSw; go_simp
    simp only [Act.put, List.getElem_toArray, List.getElem_cons_succ, List.getElem_cons_zero, List.setIfInBounds_toArray, List.set_cons_zero, List.set_cons_succ]
    refine wpAnyH_ready (rs := [2]) (by kernel_rfl) (by simp) ?_
    refine AllReadyH.cons rfl (fun K hK => ?_) AllReadyH.nil
    rw [if_pos (by rfl)]
    simp only [List.getElem_toArray, List.getElem_cons_succ, List.getElem_cons_zero]
    go_wp2_with fail
    refine (l3AnyStmt_is (w.heap.size + 2) a len cap (w.heap.size + 2) _ Dd.out).mono ?_
    rintro e w4 ⟨h4, l4, y1, y2, y3, y4, yv, hret, g4, g5, q4, d4, wr4⟩
    obtain ⟨C, HC0⟩ : ∃ C, Hid (scells h4 y1 y2 y3 y4 yv = C) := ⟨_, rfl⟩
    have szC : C.toArray.size = 19 := by rw [← HC0.out]; rfl
    have lnC : C.length = 19 := by rw [← HC0.out]; rfl
    have ioC : C.toArray.all (·.oneCell') = true := by rw [← HC0.out]; exact oneS h4 y1 y2 y3 y4 yv g4.e1.isOne g4.e2.isOne g4.e3.isOne g4.e4.isOne g5.isOne
    obtain rfl : e = .returned (.agg C.toArray) := by rw [← HC0.out]; exact hret
    have B4 := Lib.hid (Bd.out.trans (wr4.belowAt (by omega) (by omega)))
    have E4 := Lib.hid (And.intro (HV.wr Ed.out.1 wr4 (by omega)) (SV.wr Ed.out.2 wr4 (by omega)))
    have G4 := Lib.hid (And.intro g4 g5)
    have Q4 := Lib.hid q4
    go_wp2_with fail
    refine hK.out _ _ (⟨⟨range_wr hHeld.1.1 wr4 (by omega), there_wr hHeld.1.2 wr4 (by omega)⟩, there_wr hHeld.2 wr4 (by omega)⟩) (fun hHeld => ?_)
    try simp only [Act.put, List.getElem_toArray, List.getElem_cons_succ, List.getElem_cons_zero, List.setIfInBounds_toArray, List.set_cons_zero, List.set_cons_succ]
    obtain ⟨WE, hWE⟩ : ∃ WE, (w4.setCells w.heap.size 0 A).setCells (w.heap.size + 1) 0 (C) = WE := ⟨_, rfl⟩
    have HC := Lib.hid (two_sets (A := A) (C := C) (by rw [lnA]; exact hHeld.1.2) (by rw [lnC]; exact hHeld.2) B4.out hWE)
    refine wpAnyH_ready (rs := [3]) (by kernel_rfl) (by simp) ?_
    refine AllReadyH.cons rfl (fun K hK => ?_) AllReadyH.nil
    rw [if_pos (by rfl)]
    simp only [List.getElem_toArray, List.getElem_cons_succ, List.getElem_cons_zero]
    refine wp_store_mid 30 _ _ (by rfl) (w.heap.size) 0 A.toArray (by rfl) (by rfl) (by rw [szA]; exact hHeld.1.2) (by rw [szA]; exact sizeIS) io ?_
    refine hK.out _ _ ⟨⟨World.rangeAt_setCells_apart hHeld.1.1 _ _ _ (.inl (by omega)), World.there_setCells hHeld.1.2 _ _ _⟩, World.there_setCells hHeld.2 _ _ _⟩ (fun hHeld => ?_)
    simp only [Act.put, List.getElem_toArray, List.getElem_cons_succ, List.getElem_cons_zero, List.setIfInBounds_toArray, List.set_cons_zero, List.set_cons_succ]
    refine wpAnyH_ready (rs := [4]) (by kernel_rfl) (by simp) ?_
    refine AllReadyH.cons rfl (fun K hK => ?_) AllReadyH.nil
    rw [if_pos (by rfl)]
    simp only [List.getElem_toArray, List.getElem_cons_succ, List.getElem_cons_zero]
    refine wp_store_mid 30 _ _ (by rfl) (w.heap.size + 1) 0 C.toArray (by rfl) (by rfl) (by rw [szC]; exact hHeld.2) (by rw [szC]; exact sizeIS) ioC ?_
    refine hK.out _ _ ⟨⟨World.rangeAt_setCells_apart hHeld.1.1 _ _ _ (.inl (by omega)), World.there_setCells hHeld.1.2 _ _ _⟩, World.there_setCells hHeld.2 _ _ _⟩ (fun hHeld => ?_)
    simp only [Act.put, List.getElem_toArray, List.getElem_cons_succ, List.getElem_cons_zero, List.setIfInBounds_toArray, List.set_cons_zero, List.set_cons_succ]
    refine wpAnyH_done (by kernel_rfl) ?_ _
    have HWE := Lib.hid hWE
    clear hHeld hWE
    go_wp2
    have rg0 := HC.out.1
    have rg1 := HC.out.2.1
    rw [← HWE.out] at rg0 rg1
    have hlv := run_loadVar_mid _ w.heap.size 0 _ _ _ rg0 Try.underlying30 rfl (by rw [lnA]; exact sizeIS)
    have hlw := run_loadVar_mid _ (w.heap.size + 1) 0 _ _ _ rg1 Try.underlying30 rfl (by rw [lnC]; exact sizeIS)
    refine bodyPost_ret (v := .tuple #[.agg A.toArray, .agg C.toArray]) ?_ rfl ⟨h, h4, l, l4, .slice a1 (elen h.x1.l) c1, .slice a2 (elen h.x2.l) c2, .slice a3 (elen h.x3.l) c3, .slice a4 (elen h.x4.l) c4, .slice va (slen l) vc, y1, y2, y3, y4, yv, (by rw [HA0.out, HC0.out]), ?_, ?_, ?_, ?_, ?_⟩
    · simp [results, Try.results8, asAddr, hlv, hlw, Act.put]
    · have h1 := And.intro (E4.out.1.same (lo' := w.heap.size) (by omega) (fun a v hl hc => HC.out.2.2.1 a v (by omega) hc)) (E4.out.2.same (lo' := w.heap.size) (by omega) (fun a v hl hc => HC.out.2.2.1 a v (by omega) hc)); rw [← HWE.out] at h1; exact h1
    · have h1 := And.intro (G4.out.1.same (lo' := w.heap.size) (by omega) (fun a v hl hc => HC.out.2.2.1 a v (by omega) hc)) (G4.out.2.same (lo' := w.heap.size) (by omega) (fun a v hl hc => HC.out.2.2.1 a v (by omega) hc)); rw [← HWE.out] at h1; exact h1
    · exact s2
    · exact Q4.out
    · have h1 := HC.out.2.2.2; rw [← HWE.out] at h1; exact h1
end Go.Proofs.Ytkhccpjkajhnpaa
