/-
  Texts in one: ParSum, ParAtom, ParMul.
-/
import Derived.Test.YtkhccpjkajhnpaaGreatDoorP09ofParseExp
/-
  The specification's reader: the contracts of l5Pair, l5Atom, l5Mul, l5Sum.
-/
namespace Go.Proofs.YtkhccpjkajhnpaaGreatDoor
open Go.RowKit Go.Lib
set_option linter.unusedSimpArgs false
set_option linter.unusedVariables false

/-- What was read. -/
structure Got5 (b : Nat) (v : Value) (ts : List T) (deep : Int) (res : Rest) (p : Nat) (w w' : World) (x : X) (u : Value) (p' : Nat) (bad' : Bool) : Prop where
  ev : EV w' w.heap.size x.l u
  rd : Rd5 b v ts p' deep bad' w'
  wr : Wr b w w'
  le : p ≤ p'
  rel : StE5 ts res x p' bad'
def PostE (b : Nat) (v : Value) (ts : List T) (deep : Int) (res : Rest) (p : Nat) (w : World) (e : Ending) (w' : World) : Prop := ∃ (x : X) (u : Value) (p' : Nat) (bad' : Bool), e = .returned (.agg (xcells x u).toArray) ∧ Got5 b v ts deep res p w w' x u p' bad'
/-- What l5Sum says, so many sums deep. -/
def SumC (b : Nat) (v : Value) (ts : List T) (d : Nat) : Prop := ∀ (deep : Int), deep = 30 - (d : Int) → ∀ (p : Nat) (bad : Bool) (w : World), Rd5 b v ts p deep bad w → Calls Tryz.prog 52 #[.pointer (some ⟨b, 0, none⟩)] w (PostE b v ts deep (resB bad (sumP d) (ts.drop p)) p w)
theorem le_toNat (p : Nat) (R : Bool) : p ≤ p + R.toNat := Nat.le_add_right _ _
theorem EV.wr5 {b lo : Nat} {w w' : World} {F : EF} {v : Value} (h : EV w lo F v) (hw : Wr b w w') (hlo : b + 1 ≤ lo) : EV w' lo F v := h.same (Nat.le_refl _) fun a u hl hc => wr_keeps hw hc (by omega)
theorem range_wr5 {b n o : Nat} {w w' : World} {cs : List Value} (h : w.rangeAt n o cs) (hw : Wr b w w') (hne : n ≠ b) : w'.rangeAt n o cs := fun j z hj => wr_keeps hw (h j z hj) hne
/-- The end: the result is laid into its block. -/
theorem Got5.close {b : Nat} {v : Value} {ts : List T} {deep : Int} {res : Rest} {p p' : Nat} {bad' : Bool} {w w2 W : World} {x : X} {u : Value} (hb : b < w.heap.size) (th : w2.there w.heap.size 0 4) (he : EV w2 (w.heap.size + 1) x.l u) (hr : Rd5 b v ts p' deep bad' w2) (hw : Wr b w w2) (hle : p ≤ p') (hrel : StE5 ts res x p' bad') (hW : w2.setCells w.heap.size 0 (xcells x u) = W) :
    Got5 b v ts deep res p w W x u p' bad' ∧ W.rangeAt w.heap.size 0 (xcells x u) := by
  have hk : Keeps (w.heap.size + 1) w2 W := by rw [← hW]; exact Keeps.sets _ (by omega) _ _
  have hB : Below w.heap.size w2 W := by rw [← hW]; exact below_sets _ _ (Below.refl _ _) (Nat.le_refl _)
  have hWr : Wr b w W := ⟨hB.os.trans hw.os, hB.tape.trans hw.tape, hB.output.trans hw.output, Nat.le_trans hw.size hB.size, fun k hk hne => (hB.block k hk).trans (hw.block k hk hne)⟩
  refine ⟨⟨he.same (by omega) hk, ⟨?_, ?_, ?_, hr.hp, hr.hts⟩, hWr, hle, hrel⟩, by rw [← hW]; exact World.rangeAt_setCells_same _ _ _ _ th⟩
  · rw [← hW]; exact World.rangeAt_setCells_apart hr.rg _ _ _ (.inl (by omega))
  · rw [← hW]; exact World.there_setCells hr.th _ _ _
  · obtain ⟨ao, cap, e, h⟩ := hr.row
    refine ⟨ao, cap, e, ?_⟩
    rcases h with h | ⟨g, e2, hg, hc⟩
    · exact .inl h
    · have kc : ∀ (o : Nat) (z : Value), w2.cell? ⟨g, o, Option.none⟩ = some z → W.cell? ⟨g, o, Option.none⟩ = some z := fun o z hz => (hB.cell (p := ⟨g, o, Option.none⟩) (show g < w.heap.size by omega)).trans hz
      exact .inr ⟨g, e2, hg, fun i t hi => ⟨kc _ _ (hc i t hi).1, kc _ _ (hc i t hi).2.1, kc _ _ (hc i t hi).2.2⟩⟩
set_option maxHeartbeats 2000000 in
set_option maxRecDepth 100000 in
theorem l5Pair_of (b : Nat) (v : Value) (ts : List T) (hG : ∀ t ∈ ts, Good t) (d : Nat) (deep : Int) (ih : ∀ (p : Nat) (bad : Bool) (w : World), Rd5 b v ts p deep bad w → Calls Tryz.prog 52 #[.pointer (some ⟨b, 0, none⟩)] w (PostE b v ts deep (resB bad (sumP d) (ts.drop p)) p w)) (k : Int) (p : Nat) (bad : Bool) (w : World) (st : Rd5 b v ts p deep bad w) :
    Calls Tryz.prog 201 #[.pointer (some ⟨b, 0, none⟩), .int .i64 k] w (PostE b v ts deep (resB bad (choiceP (sumP d) k) (ts.drop p)) p w) := by
  have Hih := Lib.hid ih
  have hbN := st.lt
  have b0 := alloc_below w (.cells zero4 33)
  have S0 := Lib.hid (st.later b0)
  have T0 := Lib.hid (newthere4 w 33)
  have W0 := Lib.hid (Wr.of_below (b := b) b0)
  have G0 := Lib.hid (St5.start ts p bad)
  clear ih st b0
  go_enter Tryz.func201, Tryz.ntmps201
  obtain ⟨R1, HR1⟩ : ∃ R, Hid (isR bad 4 [40] (ts.drop p) = R) := ⟨_, rfl⟩
  go_wp2_with fail
  refine (l5Mark_is b v ts p deep bad [40] R1 HR1.out _ S0.out).mono ?_
  rintro e m1 ⟨rfl, s1, h1⟩
  go_wp2_with fail
  refine (l5Must_is b v ts (p + R1.toNat) deep bad R1 _ s1).mono ?_
  rintro e q1 ⟨rfl, s1', h1'⟩
  obtain ⟨p1, Hp1⟩ : ∃ n, Hid (p + R1.toNat = n) := ⟨_, rfl⟩
  obtain ⟨b1, Hb1⟩ : ∃ n, Hid ((bad || !R1) = n) := ⟨_, rfl⟩
  rw [Hp1.out, Hb1.out] at s1'
  have S1 := Lib.hid s1'
  have V1 := Lib.hid (h1.trans h1')
  have W1 := Lib.hid (W0.out.trans (h1.trans h1'))
  have L1 : Hid (p ≤ p1) := Lib.hid (by rw [← Hp1.out]; exact le_toNat _ _)
  have G1 := Lib.hid (G0.out.mark hG (c := 40) (by decide) HR1.out)
  rw [Hp1.out, Hb1.out] at G1
  clear s1 s1' h1 h1' HR1 Hp1 Hb1
  go_wp2_with fail
  refine (Hih.out p1 b1 _ S1.out).mono ?_
  rintro e n2 ⟨x2, u2, p2, b2, rfl, g2⟩
  have o2 := oneX x2 u2 g2.ev.isOne
  have K2 := Lib.hid g2
  clear g2
  go_wp2_with (refine store_abs rfl 33 _ _ rfl n2.heap.size 0 (xcells x2 u2).toArray rfl rfl (newthere4 n2 _) sizeIE2 o2 ?_; intro W hW; have HW2 := Lib.hid (newblk4 x2 u2 hW); clear hW)
  obtain ⟨w2, hw2⟩ : ∃ z, W = z := ⟨_, rfl⟩
  rw [hw2] at HW2 ⊢
  clear hw2 W
  obtain ⟨c2, hc2⟩ : ∃ z, Hid (n2.heap.size = z) := ⟨_, rfl⟩
  have hs2 := K2.out.wr.size
  have hl2 : n2.heap.size < w2.heap.size := lt_of_cellA (HW2.out.1 0 _ rfl)
  have S2 := Lib.hid (K2.out.rd.later HW2.out.2)
  have W2 := Lib.hid ((W1.out.trans K2.out.wr).trans (.of_below HW2.out.2))
  have V2 := Lib.hid (K2.out.wr.trans (.of_below (b := b) HW2.out.2))
  have L2 := Lib.hid K2.out.le
  have G2 := Lib.hid (G1.out.sub K2.out.rel)
  have ws1 := W1.out.size
  have E2 := Lib.hid (((K2.out.ev.lower (lo' := w.heap.size + 1) (by have := W0.out.size; have := V1.out.size; simp at this; omega))).later HW2.out.2)
  have R2 := Lib.hid HW2.out.1
  have H2 := Lib.hid G2.out.st
  obtain ⟨R3, HR3⟩ : ∃ R, Hid (isR b2 4 [44] (ts.drop p2) = R) := ⟨_, rfl⟩
  go_wp2_with fail
  refine (l5Mark_is b v ts p2 deep b2 [44] R3 HR3.out _ S2.out).mono ?_
  rintro e m3 ⟨rfl, s3, h3⟩
  go_wp2_with fail
  refine (l5Must_is b v ts (p2 + R3.toNat) deep b2 R3 _ s3).mono ?_
  rintro e q3 ⟨rfl, s3', h3'⟩
  obtain ⟨p3, Hp3⟩ : ∃ n, Hid (p2 + R3.toNat = n) := ⟨_, rfl⟩
  obtain ⟨b3, Hb3⟩ : ∃ n, Hid ((b2 || !R3) = n) := ⟨_, rfl⟩
  rw [Hp3.out, Hb3.out] at s3'
  have S3 := Lib.hid s3'
  have V3 := Lib.hid (h3.trans h3')
  have W3 := Lib.hid (W2.out.trans (h3.trans h3'))
  have L3 : Hid (p2 ≤ p3) := Lib.hid (by rw [← Hp3.out]; exact le_toNat _ _)
  have G3 := Lib.hid (H2.out.mark hG (c := 44) (by decide) HR3.out)
  rw [Hp3.out, Hb3.out] at G3
  clear s3 s3' h3 h3' HR3 Hp3 Hb3
  have E3 := Lib.hid (E2.out.wr5 V3.out (by omega))
  have R3 := Lib.hid (range_wr5 R2.out V3.out (by omega))
  go_wp2_with fail
  refine (Hih.out p3 b3 _ S3.out).mono ?_
  rintro e n4 ⟨x4, u4, p4, b4, rfl, g4⟩
  have o4 := oneX x4 u4 g4.ev.isOne
  have K4 := Lib.hid g4
  clear g4
  go_wp2_with (refine store_abs rfl 33 _ _ rfl n4.heap.size 0 (xcells x4 u4).toArray rfl rfl (newthere4 n4 _) sizeIE2 o4 ?_; intro W hW; have HW4 := Lib.hid (newblk4 x4 u4 hW); clear hW)
  obtain ⟨w4, hw4⟩ : ∃ z, W = z := ⟨_, rfl⟩
  rw [hw4] at HW4 ⊢
  clear hw4 W
  obtain ⟨c4, hc4⟩ : ∃ z, Hid (n4.heap.size = z) := ⟨_, rfl⟩
  have hs4 := K4.out.wr.size
  have hl4 : n4.heap.size < w4.heap.size := lt_of_cellA (HW4.out.1 0 _ rfl)
  have S4 := Lib.hid (K4.out.rd.later HW4.out.2)
  have W4 := Lib.hid ((W3.out.trans K4.out.wr).trans (.of_below HW4.out.2))
  have V4 := Lib.hid (K4.out.wr.trans (.of_below (b := b) HW4.out.2))
  have L4 := Lib.hid K4.out.le
  have G4 := Lib.hid (G3.out.sub K4.out.rel)
  have v3s := V3.out.size
  have E4 := Lib.hid (E3.out.wr5 V4.out (by omega))
  have R4 := Lib.hid (range_wr5 R3.out V4.out (by omega))
  have F4 := Lib.hid (((K4.out.ev.lower (lo' := w.heap.size + 1) (by omega))).later HW4.out.2)
  have Q4 := Lib.hid HW4.out.1
  have H4 := Lib.hid G4.out.st
  obtain ⟨R5, HR5⟩ : ∃ R, Hid (isR b4 4 [41] (ts.drop p4) = R) := ⟨_, rfl⟩
  go_wp2_with fail
  refine (l5Mark_is b v ts p4 deep b4 [41] R5 HR5.out _ S4.out).mono ?_
  rintro e m5 ⟨rfl, s5, h5⟩
  go_wp2_with fail
  refine (l5Must_is b v ts (p4 + R5.toNat) deep b4 R5 _ s5).mono ?_
  rintro e q5 ⟨rfl, s5', h5'⟩
  obtain ⟨p5, Hp5⟩ : ∃ n, Hid (p4 + R5.toNat = n) := ⟨_, rfl⟩
  obtain ⟨b5, Hb5⟩ : ∃ n, Hid ((b4 || !R5) = n) := ⟨_, rfl⟩
  rw [Hp5.out, Hb5.out] at s5'
  have S5 := Lib.hid s5'
  have V5 := Lib.hid (h5.trans h5')
  have W5 := Lib.hid (W4.out.trans (h5.trans h5'))
  have L5 : Hid (p4 ≤ p5) := Lib.hid (by rw [← Hp5.out]; exact le_toNat _ _)
  have G5 := Lib.hid (H4.out.mark hG (c := 41) (by decide) HR5.out)
  rw [Hp5.out, Hb5.out] at G5
  clear s5 s5' h5 h5' HR5 Hp5 Hb5
  have E5 := Lib.hid (E4.out.wr5 V5.out (by omega))
  have R5 := Lib.hid (range_wr5 R4.out V5.out (by omega))
  have F5 := Lib.hid (F4.out.wr5 V5.out (by omega))
  have Q5 := Lib.hid (range_wr5 Q4.out V5.out (by omega))
  have T5 : Hid (q5.there w.heap.size 0 4) := Lib.hid (there_wr (there_wr (there_wr (there_wr (there_wr T0.out V1.out (by omega)) V2.out (by omega)) V3.out (by omega)) V4.out (by omega)) V5.out (by omega))
  go_wp2_with (first | (refine wpList_load_mid rfl 33 _ rfl n2.heap.size 0 rfl _ _ R5.out Tryz.underlying33 rfl sizeIE2 ?_) | (refine wpList_load_mid rfl 33 _ rfl n4.heap.size 0 rfl _ _ Q5.out Tryz.underlying33 rfl sizeIE2 ?_))
  refine (l3Two_is k x2 x4 (w.heap.size + 1) _ u2 u4 E5.out F5.out (by have z1 := V1.out.size; rw [World.size_alloc] at z1; have := V2.out.size; have := V3.out.size; have := V4.out.size; have := V5.out.size; omega)).mono ?_
  rintro e w6 ⟨z, rfl, e6, hb6⟩
  have o6 := oneX (twoX k x2 x4) z e6.isOne
  have th6 := there_later T5.out hb6
  have HF := Lib.hid (And.intro e6 (And.intro (S5.out.later hb6) (W5.out.trans (.of_below hb6))))
  have HR := Lib.hid (choice_st (k := k) G2.out G4.out G5.out)
  clear e6 hb6
  go_wp2_with (refine store_abs rfl 33 _ _ rfl w.heap.size 0 (xcells (twoX k x2 x4) z).toArray rfl rfl th6 sizeIE2 o6 ?_; intro W hW)
  have HW := Got5.close (p := p) (res := resB bad (choiceP (sumP d) k) (ts.drop p)) hbN th6 HF.out.1 HF.out.2.1 HF.out.2.2 (by have := L1.out; have := L2.out; have := L3.out; have := L4.out; have := L5.out; omega) (by rw [resB_bind]; exact HR.out) hW
  have hlv := run_loadVar_mid W w.heap.size 0 _ _ _ HW.2 Tryz.underlying33 rfl sizeIE2
  refine bodyPost_ret (v := .agg (xcells (twoX k x2 x4) z).toArray) ?_ rfl ⟨twoX k x2 x4, z, _, _, rfl, HW.1⟩
  simp [results, Tryz.results201, asAddr, hlv, Act.put]
  try rfl
end Go.Proofs.YtkhccpjkajhnpaaGreatDoor
/-
  The specification's reader: the contract of l5Atom.
-/
namespace Go.Proofs.YtkhccpjkajhnpaaGreatDoor
open Go.RowKit Go.Lib
set_option linter.unusedSimpArgs false
set_option linter.unusedVariables false

theorem atomP_2 {sub : List T → Rest} {t : T} {r : List T} (h : t.k = 2) : atomP sub (t :: r) = some (numX t.n, r) := by show (if _ then _ else _) = _; rw [if_pos h]
theorem atomP_1 {sub : List T → Rest} {t : T} {r : List T} (h : t.k = 1) : atomP sub (t :: r) = nameP sub t.s r := by show (if _ then _ else if _ then _ else _) = _; rw [if_neg (by omega), if_pos h]
theorem kindR_no {k : Int} {ts : List T} {p : Nat} {t : T} (ht : ts[p]? = some t) (h : kindR false k (ts.drop p) = false) : ¬ t.k = k := by
  rw [dropT ht] at h
  simpa [kindR] using h
theorem atomP_g {sub : List T → Rest} {t : T} {r : List T} (h2 : ¬ t.k = 2) (h1 : ¬ t.k = 1) (hs : t.s = [40]) : atomP sub (t :: r) = groupP sub r := by
  show (if _ then _ else if _ then _ else if _ then _ else _) = _; rw [if_neg h2, if_neg h1, if_pos hs]
theorem atomP_m {sub : List T → Rest} {t : T} {r : List T} (h2 : ¬ t.k = 2) (h1 : ¬ t.k = 1) (hs : t.s = [109, 105, 110]) : atomP sub (t :: r) = choiceP sub 7 r := by
  show (if _ then _ else if _ then _ else if _ then _ else if _ then _ else _) = _; rw [if_neg h2, if_neg h1, if_neg (by rw [hs]; decide), if_pos hs]
theorem atomP_x {sub : List T → Rest} {t : T} {r : List T} (h2 : ¬ t.k = 2) (h1 : ¬ t.k = 1) (hs : t.s = [109, 97, 120]) : atomP sub (t :: r) = choiceP sub 8 r := by
  show (if _ then _ else if _ then _ else if _ then _ else if _ then _ else if _ then _ else _) = _; rw [if_neg h2, if_neg h1, if_neg (by rw [hs]; decide), if_neg (by rw [hs]; decide), if_pos hs]
theorem atomP_none {sub : List T → Rest} {t : T} {r : List T} (h2 : ¬ t.k = 2) (h1 : ¬ t.k = 1) (ha : ¬ t.s = [40]) (hm : ¬ t.s = [109, 105, 110]) (hx : ¬ t.s = [109, 97, 120]) : atomP sub (t :: r) = none := by
  show (if _ then _ else if _ then _ else if _ then _ else if _ then _ else if _ then _ else _) = _; rw [if_neg h2, if_neg h1, if_neg ha, if_neg hm, if_neg hx]
/-- A sign of a text that is there. -/
theorem isR_true {ts : List T} {p : Nat} {bad : Bool} {k : Int} {s : List UInt8} (h : isR bad k s (ts.drop p) = true) : bad = false ∧ ∃ t, ts[p]? = some t ∧ t.s = s ∧ p < ts.length := by
  unfold isR at h
  rw [Bool.and_eq_true] at h
  obtain ⟨hb, t, ht, _, hlt⟩ := kindR_true h.1
  have h2 := h.2
  rw [dropT ht] at h2
  exact ⟨hb, t, ht, by simpa using h2, hlt⟩
theorem isR_no {ts : List T} (hG : ∀ t ∈ ts, Good t) {p : Nat} {c : UInt8} (hc : kind c = 3) {t : T} (ht : ts[p]? = some t) (h : isR false 4 [c] (ts.drop p) = false) : ¬ t.s = [c] := by
  rw [mark_eat hc false _ (drop_good hG p), dropT ht] at h
  intro e
  simp [eat, e] at h
theorem isK_no {ts : List T} (hG : ∀ t ∈ ts, Good t) {p : Nat} {s : List UInt8} (hs : s ∈ keptL) {t : T} (ht : ts[p]? = some t) (h : isR false 3 s (ts.drop p) = false) : ¬ t.s = s := by
  rw [kept_eat hs false _ (drop_good hG p), dropT ht] at h
  intro e
  simp [eat, e] at h
theorem ev_nil (w : World) (lo : Nat) : EV w lo .nil (.slice Option.none 0 0) := EV.nil w lo _ _
set_option maxHeartbeats 4000000 in
set_option maxRecDepth 100000 in
theorem l5Atom_of (b : Nat) (v : Value) (ts : List T) (hG : ∀ t ∈ ts, Good t) (d : Nat) (deep : Int) (p : Nat) (bad : Bool) (ih : bad = false → ∀ (p : Nat) (bad : Bool) (w : World), Rd5 b v ts p deep bad w → Calls Tryz.prog 52 #[.pointer (some ⟨b, 0, none⟩)] w (PostE b v ts deep (resB bad (sumP d) (ts.drop p)) p w)) (w : World) (st : Rd5 b v ts p deep bad w) :
    Calls Tryz.prog 162 #[.pointer (some ⟨b, 0, none⟩)] w (PostE b v ts deep (resB bad (atomP (sumP d)) (ts.drop p)) p w) := by
  have Hih := Lib.hid ih
  have Hpair := Lib.hid (fun h => l5Pair_of b v ts hG d deep (ih h))
  have hbN := st.lt
  have b0 := alloc_below w (.cells zero4 33)
  have S0 := Lib.hid (st.later b0)
  have T0 := Lib.hid (newthere4 w 33)
  have W0 := Lib.hid (Wr.of_below (b := b) b0)
  clear ih st b0
  obtain ⟨K2, HK2⟩ : ∃ R, Hid (kindR bad 2 (ts.drop p) = R) := ⟨_, rfl⟩
  go_enter Tryz.func162, Tryz.ntmps162
  go_wp2_with fail
  refine (l5Kind_is b v ts p deep bad 2 K2 HK2.out _ S0.out).mono ?_
  rintro e w1 ⟨rfl, hb1⟩
  have S1 := Lib.hid (S0.out.later hb1)
  have V1 := Lib.hid (Wr.of_below (b := b) hb1)
  have W1 := Lib.hid (W0.out.trans (.of_below hb1))
  have T1 := Lib.hid (there_later T0.out hb1)
  have Z1 := hb1.size
  rw [World.size_alloc] at Z1
  clear hb1 S0 W0 T0
  cases K2 with
  | true =>
    obtain ⟨rfl, t, ht, hk, hlt⟩ := kindR_true HK2.out
    go_wp2_with fail
    refine (l5Num_is b v ts p deep false true HK2.out _ S1.out).mono ?_
    rintro e w2 ⟨ho, s2, h2⟩
    obtain ⟨t', ht', rfl⟩ : ∃ t', ts[p]? = some t' ∧ e = .returned (.int .i64 t'.n) := by
      rcases ho with ⟨_, h⟩ | ⟨h, _⟩
      · exact h
      · cases h
    obtain rfl : t' = t := by rw [ht] at ht'; exact (Option.some.inj ht').symm
    go_wp2_with fail
    refine (l3Num_is t'.n _).mono ?_
    rintro e w3 ⟨rfl, hb3⟩
    have HT := there_later (there_wr T1.out h2 (by omega)) hb3
    have HS := Lib.hid (s2.later hb3)
    have HWr := Lib.hid ((W1.out.trans h2).trans (.of_below hb3))
    have HRel := Lib.hid (show StE5 ts (resB false (atomP (sumP d)) (ts.drop p)) (numX t'.n) (p + true.toNat) (false || !true) by
      show StE5 ts (atomP (sumP d) (ts.drop p)) _ _ _
      rw [dropT ht, atomP_2 hk]; exact ⟨rfl, rfl, rfl⟩)
    have HE := Lib.hid (ev_nil w3 (w.heap.size + 1))
    clear s2 h2 hb3 ho ht ht'
    have oF := oneX (numX t'.n) (.slice Option.none 0 0) HE.out.isOne
    go_wp2_with (refine store_abs rfl 33 _ _ rfl w.heap.size 0 (xcells (numX t'.n) (.slice Option.none 0 0)).toArray rfl rfl HT sizeIE2 oF ?_; intro W hW)
    have HW := Got5.close (p := p) (res := resB false (atomP (sumP d)) (ts.drop p)) hbN HT HE.out HS.out HWr.out (Nat.le_add_right _ _) HRel.out hW
    have hlv := run_loadVar_mid W w.heap.size 0 _ _ _ HW.2 Tryz.underlying33 rfl sizeIE2
    refine bodyPost_ret (v := .agg (xcells (numX t'.n) (.slice Option.none 0 0)).toArray) ?_ rfl ⟨numX t'.n, .slice Option.none 0 0, _, _, rfl, HW.1⟩
    simp [results, Tryz.results162, asAddr, hlv, Act.put]
    try rfl
  | false =>
    obtain ⟨K1, HK1⟩ : ∃ R, Hid (kindR bad 1 (ts.drop p) = R) := ⟨_, rfl⟩
    go_wp2_with fail
    refine (l5Kind_is b v ts p deep bad 1 K1 HK1.out _ S1.out).mono ?_
    rintro e w2 ⟨rfl, hb2⟩
    have S2 := Lib.hid (S1.out.later hb2)
    have W2 := Lib.hid (W1.out.trans (.of_below hb2))
    have T2 := Lib.hid (there_later T1.out hb2)
    have Z2 := hb2.size
    clear hb2 S1 W1 T1 V1
    cases K1 with
    | true =>
      obtain ⟨rfl, t, ht, hk, hlt⟩ := kindR_true HK1.out
      go_wp2_with fail
      refine (l5Name_is b v ts p deep false true HK1.out _ S2.out).mono ?_
      rintro e w3 ⟨ho, s3, h3⟩
      obtain ⟨t', ht', rfl⟩ : ∃ t', ts[p]? = some t' ∧ e = .returned (.string (bs t'.s)) := by
        rcases ho with ⟨_, h⟩ | ⟨h, _⟩
        · exact h
        · cases h
      obtain rfl : t' = t := by rw [ht] at ht'; exact (Option.some.inj ht').symm
      have S3 : Hid (Rd5 b v ts (p + 1) deep false w3) := Lib.hid s3
      have W3 := Lib.hid (W2.out.trans h3)
      have T3 := Lib.hid (there_wr T2.out h3 (by omega))
      have Z3 := h3.size
      have HA := Lib.hid (show atomP (sumP d) (ts.drop p) = nameP (sumP d) t'.s (ts.drop (p + 1)) by rw [dropT ht, atomP_1 hk])
      clear s3 h3 ho ht ht' S2 W2 T2
      obtain ⟨R4, HR4⟩ : ∃ R, Hid (isR false 4 [91] (ts.drop (p + 1)) = R) := ⟨_, rfl⟩
      go_wp2_with fail
      refine (l5Mark_is b v ts (p + 1) deep false [91] R4 HR4.out _ S3.out).mono ?_
      rintro e w4 ⟨rfl, s4, h4⟩
      have S4 := Lib.hid s4
      have W4 := Lib.hid (W3.out.trans h4)
      have T4 := Lib.hid (there_wr T3.out h4 (by omega))
      have Z4 := h4.size
      have G4 := Lib.hid ((St5.start ts (p + 1) false).mark hG (c := 91) (by decide) HR4.out)
      clear s4 h4 S3 W3 T3
      cases R4 with
      | false =>
        go_wp2_with fail
        refine (l3Var_is (bs t'.s) _).mono ?_
        rintro e w5 ⟨rfl, hb5⟩
        have HT := there_later T4.out hb5
        have HS := Lib.hid (S4.out.later hb5)
        have HWr := Lib.hid (W4.out.trans (.of_below hb5))
        have he0 : eat [91] (ts.drop (p + 1)) = none := by
          cases h : eat [91] (ts.drop (p + 1)) with
          | none => rfl
          | some l => have := HR4.out; rw [mark_eat (by decide) false _ (drop_good hG _), h] at this; cases this
        have HRel := Lib.hid (show StE5 ts (resB false (atomP (sumP d)) (ts.drop p)) (varX t'.s) (p + 1 + false.toNat) false by
          show StE5 ts (atomP (sumP d) (ts.drop p)) _ _ _
          rw [HA.out]; unfold nameP; rw [he0]; exact ⟨rfl, rfl, rfl⟩)
        have HE := Lib.hid (ev_nil w5 (w.heap.size + 1))
        clear hb5
        have oF := oneX (varX t'.s) (.slice Option.none 0 0) HE.out.isOne
        go_wp2_with (refine store_abs rfl 33 _ _ rfl w.heap.size 0 (xcells (varX t'.s) (.slice Option.none 0 0)).toArray rfl rfl HT sizeIE2 oF ?_; intro W hW)
        have HW := Got5.close (p := p) (res := resB false (atomP (sumP d)) (ts.drop p)) hbN HT HE.out HS.out HWr.out (by first | (simp; done) | (simp; omega)) HRel.out hW
        have hlv := run_loadVar_mid W w.heap.size 0 _ _ _ HW.2 Tryz.underlying33 rfl sizeIE2
        refine bodyPost_ret (v := .agg (xcells (varX t'.s) (.slice Option.none 0 0)).toArray) ?_ rfl ⟨varX t'.s, .slice Option.none 0 0, _, _, rfl, HW.1⟩
        simp [results, Tryz.results162, asAddr, hlv, Act.put]
        try rfl
      | true =>
        obtain ⟨l4, hl4⟩ : ∃ l, eat [91] (ts.drop (p + 1)) = some l := by
          cases h : eat [91] (ts.drop (p + 1)) with
          | none => have := HR4.out; rw [mark_eat (by decide) false _ (drop_good hG _), h] at this; cases this
          | some l => exact ⟨l, rfl⟩
        have hl5 := (eat_drop hl4).1
        go_wp2_with fail
        refine (Hih.out (by first | exact rfl | exact trivial) (p + 1 + 1) false _ S4.out).mono ?_
        rintro e n5 ⟨x5, u5, p5, b5, rfl, g5⟩
        have o5 := oneX x5 u5 g5.ev.isOne
        have K5 := Lib.hid g5
        clear g5
        go_wp2_with (refine store_abs rfl 33 _ _ rfl n5.heap.size 0 (xcells x5 u5).toArray rfl rfl (newthere4 n5 _) sizeIE2 o5 ?_; intro W hW; have HW5 := Lib.hid (newblk4 x5 u5 hW); clear hW)
        obtain ⟨w5, hw5⟩ : ∃ z, W = z := ⟨_, rfl⟩
        rw [hw5] at HW5 ⊢
        clear hw5 W
        have hs5 := K5.out.wr.size
        have S5 := Lib.hid (K5.out.rd.later HW5.out.2)
        have V5 := Lib.hid (K5.out.wr.trans (.of_below (b := b) HW5.out.2))
        have W5 := Lib.hid (W4.out.trans V5.out)
        have T5 := Lib.hid (there_wr T4.out V5.out (by omega))
        have G5 : Hid (StE5 ts (sumP d l4) x5 p5 b5) := Lib.hid (by rw [hl5]; exact K5.out.rel)
        have E5 := Lib.hid ((K5.out.ev.lower (lo' := w.heap.size + 1) (by omega)).later HW5.out.2)
        have L5 := Lib.hid K5.out.le
        have H5 := Lib.hid G5.out.st
        have Z5 := HW5.out.2.size
        obtain ⟨R6, HR6⟩ : ∃ R, Hid (isR b5 4 [93] (ts.drop p5) = R) := ⟨_, rfl⟩
        go_wp2_with fail
        refine (l5Mark_is b v ts p5 deep b5 [93] R6 HR6.out _ S5.out).mono ?_
        rintro e m6 ⟨rfl, s6, h6⟩
        go_wp2_with fail
        refine (l5Must_is b v ts (p5 + R6.toNat) deep b5 R6 _ s6).mono ?_
        rintro e q6 ⟨rfl, s6', h6'⟩
        obtain ⟨p6, Hp6⟩ : ∃ n, Hid (p5 + R6.toNat = n) := ⟨_, rfl⟩
        obtain ⟨b6, Hb6⟩ : ∃ n, Hid ((b5 || !R6) = n) := ⟨_, rfl⟩
        rw [Hp6.out, Hb6.out] at s6'
        have S6 := Lib.hid s6'
        have V6 := Lib.hid (h6.trans h6')
        have W6 := Lib.hid (W5.out.trans (h6.trans h6'))
        have L6 : Hid (p5 ≤ p6) := Lib.hid (by rw [← Hp6.out]; exact le_toNat _ _)
        have G6 := Lib.hid (H5.out.mark hG (c := 93) (by decide) HR6.out)
        rw [Hp6.out, Hb6.out] at G6
        clear s6 s6' h6 h6' HR6 Hp6 Hb6
        have E6 := Lib.hid (E5.out.wr5 V6.out (by omega))
        have R6 := Lib.hid (range_wr5 HW5.out.1 V6.out (by omega))
        have T6 := Lib.hid (there_wr T5.out V6.out (by omega))
        have Z6 := V6.out.size
        go_wp2_with (refine wpList_load_mid rfl 33 _ rfl n5.heap.size 0 rfl _ _ R6.out Tryz.underlying33 rfl sizeIE2 ?_)
        refine (l3At_is (bs t'.s) x5 (w.heap.size + 1) _ u5 E6.out (by omega)).mono ?_
        rintro e w7 ⟨z, rfl, e7, hb7⟩
        have HT := there_later T6.out hb7
        have HS := Lib.hid (S6.out.later hb7)
        have HWr := Lib.hid (W6.out.trans (.of_below hb7))
        have HRel := Lib.hid (show StE5 ts (resB false (atomP (sumP d)) (ts.drop p)) (atX t'.s x5) p6 b6 by
          show StE5 ts (atomP (sumP d) (ts.drop p)) _ _ _
          rw [HA.out]; exact place_st hl4 G5.out G6.out)
        have HE := Lib.hid e7
        have HL : p ≤ p6 := by have := L5.out; have := L6.out; omega
        clear hb7 e7
        have oF := oneX (atX t'.s x5) (z) HE.out.isOne
        go_wp2_with (refine store_abs rfl 33 _ _ rfl w.heap.size 0 (xcells (atX t'.s x5) (z)).toArray rfl rfl HT sizeIE2 oF ?_; intro W hW)
        have HW := Got5.close (p := p) (res := resB false (atomP (sumP d)) (ts.drop p)) hbN HT HE.out HS.out HWr.out HL HRel.out hW
        have hlv := run_loadVar_mid W w.heap.size 0 _ _ _ HW.2 Tryz.underlying33 rfl sizeIE2
        refine bodyPost_ret (v := .agg (xcells (atX t'.s x5) (z)).toArray) ?_ rfl ⟨atX t'.s x5, z, _, _, rfl, HW.1⟩
        simp [results, Tryz.results162, asAddr, hlv, Act.put]
        try rfl
    | false =>
      obtain ⟨R3, HR3⟩ : ∃ R, Hid (isR bad 4 [40] (ts.drop p) = R) := ⟨_, rfl⟩
      go_wp2_with fail
      refine (l5Mark_is b v ts p deep bad [40] R3 HR3.out _ S2.out).mono ?_
      rintro e w3 ⟨rfl, s3, h3⟩
      have S3 := Lib.hid s3
      have W3 := Lib.hid (W2.out.trans h3)
      have T3 := Lib.hid (there_wr T2.out h3 (by omega))
      have Z3 := h3.size
      clear s3 h3 S2 W2 T2
      cases R3 with
      | true =>
        obtain ⟨rfl, t, ht, hts', hlt⟩ := isR_true HR3.out
        have HA := Lib.hid (show atomP (sumP d) (ts.drop p) = groupP (sumP d) (ts.drop (p + 1)) by rw [dropT ht, atomP_g (kindR_no ht HK2.out) (kindR_no ht HK1.out) hts'])
        have G3 := Lib.hid (St5.start ts (p + 1) false)
        go_wp2_with fail
        refine (Hih.out (by first | exact rfl | exact trivial) (p + 1) false _ S3.out).mono ?_
        rintro e n5 ⟨x5, u5, p5, b5, rfl, g5⟩
        have o5 := oneX x5 u5 g5.ev.isOne
        have K5 := Lib.hid g5
        clear g5
        go_wp2_with (refine store_abs rfl 33 _ _ rfl n5.heap.size 0 (xcells x5 u5).toArray rfl rfl (newthere4 n5 _) sizeIE2 o5 ?_; intro W hW; have HW5 := Lib.hid (newblk4 x5 u5 hW); clear hW)
        obtain ⟨w5, hw5⟩ : ∃ z, W = z := ⟨_, rfl⟩
        rw [hw5] at HW5 ⊢
        clear hw5 W
        have hs5 := K5.out.wr.size
        have S5 := Lib.hid (K5.out.rd.later HW5.out.2)
        have V5 := Lib.hid (K5.out.wr.trans (.of_below (b := b) HW5.out.2))
        have W5 := Lib.hid (W3.out.trans V5.out)
        have T5 := Lib.hid (there_wr T3.out V5.out (by omega))
        have G5 := Lib.hid (G3.out.sub K5.out.rel)
        have E5 := Lib.hid ((K5.out.ev.lower (lo' := w.heap.size + 1) (by omega)).later HW5.out.2)
        have L5 := Lib.hid K5.out.le
        have H5 := Lib.hid G5.out.st
        have Z5 := HW5.out.2.size
        obtain ⟨R6, HR6⟩ : ∃ R, Hid (isR b5 4 [41] (ts.drop p5) = R) := ⟨_, rfl⟩
        go_wp2_with fail
        refine (l5Mark_is b v ts p5 deep b5 [41] R6 HR6.out _ S5.out).mono ?_
        rintro e m6 ⟨rfl, s6, h6⟩
        go_wp2_with fail
        refine (l5Must_is b v ts (p5 + R6.toNat) deep b5 R6 _ s6).mono ?_
        rintro e q6 ⟨rfl, s6', h6'⟩
        obtain ⟨p6, Hp6⟩ : ∃ n, Hid (p5 + R6.toNat = n) := ⟨_, rfl⟩
        obtain ⟨b6, Hb6⟩ : ∃ n, Hid ((b5 || !R6) = n) := ⟨_, rfl⟩
        rw [Hp6.out, Hb6.out] at s6'
        have S6 := Lib.hid s6'
        have V6 := Lib.hid (h6.trans h6')
        have W6 := Lib.hid (W5.out.trans (h6.trans h6'))
        have L6 : Hid (p5 ≤ p6) := Lib.hid (by rw [← Hp6.out]; exact le_toNat _ _)
        have G6 := Lib.hid (H5.out.mark hG (c := 41) (by decide) HR6.out)
        rw [Hp6.out, Hb6.out] at G6
        clear s6 s6' h6 h6' HR6 Hp6 Hb6
        have E6 := Lib.hid (E5.out.wr5 V6.out (by omega))
        have R6 := Lib.hid (range_wr5 HW5.out.1 V6.out (by omega))
        have T6 := T5.out
        have HT := there_wr T6 V6.out (by omega)
        have HRel := Lib.hid (show StE5 ts (resB false (atomP (sumP d)) (ts.drop p)) x5 p6 b6 by
          show StE5 ts (atomP (sumP d) (ts.drop p)) _ _ _
          rw [HA.out]; exact group_st (g := some (ts.drop (p + 1))) G5.out G6.out)
        have HL : p ≤ p6 := by have := L5.out; have := L6.out; omega
        have oF := oneX x5 u5 E6.out.isOne
        go_wp2_with (first | (refine wpList_load_mid rfl 33 _ rfl n5.heap.size 0 rfl _ _ R6.out Tryz.underlying33 rfl sizeIE2 ?_) | (refine store_abs rfl 33 _ _ rfl w.heap.size 0 (xcells x5 u5).toArray rfl rfl HT sizeIE2 oF ?_; intro W hW))
        have HW := Got5.close (p := p) (res := resB false (atomP (sumP d)) (ts.drop p)) hbN HT E6.out S6.out W6.out HL HRel.out hW
        have hlv := run_loadVar_mid W w.heap.size 0 _ _ _ HW.2 Tryz.underlying33 rfl sizeIE2
        refine bodyPost_ret (v := .agg (xcells x5 u5).toArray) ?_ rfl ⟨x5, u5, _, _, rfl, HW.1⟩
        simp [results, Tryz.results162, asAddr, hlv, Act.put]
        try rfl
      | false =>
        obtain ⟨R4, HR4⟩ : ∃ R, Hid (isR bad 3 [109, 105, 110] (ts.drop p) = R) := ⟨_, rfl⟩
        go_wp2_with fail
        refine (l5Kept_is b v ts p deep bad [109, 105, 110] R4 HR4.out _ S3.out).mono ?_
        rintro e w4 ⟨rfl, s4, h4⟩
        have S4 := Lib.hid s4
        have W4 := Lib.hid (W3.out.trans h4)
        have T4 := Lib.hid (there_wr T3.out h4 (by omega))
        have Z4 := h4.size
        clear s4 h4 S3 W3 T3
        cases R4 with
        | true =>
          obtain ⟨rfl, t, ht, hts', hlt⟩ := isR_true HR4.out
          have HA := Lib.hid (show atomP (sumP d) (ts.drop p) = choiceP (sumP d) 7 (ts.drop (p + 1)) by rw [dropT ht, atomP_m (kindR_no ht HK2.out) (kindR_no ht HK1.out) hts'])
          go_wp2_with fail
          refine (Hpair.out (by first | exact rfl | exact trivial) 7 (p + 1) false _ S4.out).mono ?_
          rintro e w7 ⟨x7, u7, p7, b7, rfl, g7⟩
          have HT := there_wr T4.out g7.wr (by omega)
          have HS := Lib.hid g7.rd
          have HWr := Lib.hid (W4.out.trans g7.wr)
          have HE := Lib.hid (g7.ev.lower (lo' := w.heap.size + 1) (by omega))
          have HRel := Lib.hid (show StE5 ts (resB false (atomP (sumP d)) (ts.drop p)) x7 p7 b7 by
            show StE5 ts (atomP (sumP d) (ts.drop p)) _ _ _
            rw [HA.out]; exact g7.rel)
          have HL : p ≤ p7 := by have := g7.le; omega
          clear g7
          have oF := oneX (x7) (u7) HE.out.isOne
          go_wp2_with (refine store_abs rfl 33 _ _ rfl w.heap.size 0 (xcells (x7) (u7)).toArray rfl rfl HT sizeIE2 oF ?_; intro W hW)
          have HW := Got5.close (p := p) (res := resB false (atomP (sumP d)) (ts.drop p)) hbN HT HE.out HS.out HWr.out HL HRel.out hW
          have hlv := run_loadVar_mid W w.heap.size 0 _ _ _ HW.2 Tryz.underlying33 rfl sizeIE2
          refine bodyPost_ret (v := .agg (xcells (x7) (u7)).toArray) ?_ rfl ⟨x7, u7, _, _, rfl, HW.1⟩
          simp [results, Tryz.results162, asAddr, hlv, Act.put]
          try rfl
        | false =>
          obtain ⟨R5, HR5⟩ : ∃ R, Hid (isR bad 3 [109, 97, 120] (ts.drop p) = R) := ⟨_, rfl⟩
          go_wp2_with fail
          refine (l5Kept_is b v ts p deep bad [109, 97, 120] R5 HR5.out _ S4.out).mono ?_
          rintro e w5 ⟨rfl, s5, h5⟩
          have S5 := Lib.hid s5
          have W5 := Lib.hid (W4.out.trans h5)
          have T5 := Lib.hid (there_wr T4.out h5 (by omega))
          have Z5 := h5.size
          clear s5 h5 S4 W4 T4
          cases R5 with
          | true =>
            obtain ⟨rfl, t, ht, hts', hlt⟩ := isR_true HR5.out
            have HA := Lib.hid (show atomP (sumP d) (ts.drop p) = choiceP (sumP d) 8 (ts.drop (p + 1)) by rw [dropT ht, atomP_x (kindR_no ht HK2.out) (kindR_no ht HK1.out) hts'])
            go_wp2_with fail
            refine (Hpair.out (by first | exact rfl | exact trivial) 8 (p + 1) false _ S5.out).mono ?_
            rintro e w7 ⟨x7, u7, p7, b7, rfl, g7⟩
            have HT := there_wr T5.out g7.wr (by omega)
            have HS := Lib.hid g7.rd
            have HWr := Lib.hid (W5.out.trans g7.wr)
            have HE := Lib.hid (g7.ev.lower (lo' := w.heap.size + 1) (by omega))
            have HRel := Lib.hid (show StE5 ts (resB false (atomP (sumP d)) (ts.drop p)) x7 p7 b7 by
              show StE5 ts (atomP (sumP d) (ts.drop p)) _ _ _
              rw [HA.out]; exact g7.rel)
            have HL : p ≤ p7 := by have := g7.le; omega
            clear g7
            have oF := oneX (x7) (u7) HE.out.isOne
            go_wp2_with (refine store_abs rfl 33 _ _ rfl w.heap.size 0 (xcells (x7) (u7)).toArray rfl rfl HT sizeIE2 oF ?_; intro W hW)
            have HW := Got5.close (p := p) (res := resB false (atomP (sumP d)) (ts.drop p)) hbN HT HE.out HS.out HWr.out HL HRel.out hW
            have hlv := run_loadVar_mid W w.heap.size 0 _ _ _ HW.2 Tryz.underlying33 rfl sizeIE2
            refine bodyPost_ret (v := .agg (xcells (x7) (u7)).toArray) ?_ rfl ⟨x7, u7, _, _, rfl, HW.1⟩
            simp [results, Tryz.results162, asAddr, hlv, Act.put]
            try rfl
          | false =>
            have q3 := S5.out.cells.2.2.2
            have q3f := S5.out.free 3 (by omega)
            have S6 : Hid (Rd5 b v ts p deep true (w5.setCell ⟨b, 3, Option.none⟩ (.bool true))) := Lib.hid (S5.out.setBad true)
            have V6 := Lib.hid (S5.out.wset 3 (.bool true))
            have HT := there_wr T5.out V6.out (by omega)
            have HE := Lib.hid (ev_nil (w5.setCell ⟨b, 3, Option.none⟩ (.bool true)) (w.heap.size + 1))
            have HRel : Hid (StE5 ts (resB bad (atomP (sumP d)) (ts.drop p)) ⟨⟨0, 0, ⟨#[]⟩⟩, .nil⟩ p true) := Lib.hid (by
              cases bad with
              | true => rfl
              | false =>
                show StE5 ts (atomP (sumP d) (ts.drop p)) _ _ _
                by_cases hlt : p < ts.length
                · have ht : ts[p]? = some ts[p] := List.getElem?_eq_getElem hlt
                  rw [dropT ht, atomP_none (kindR_no ht HK2.out) (kindR_no ht HK1.out) (isR_no hG (by decide) ht HR3.out) (isK_no hG (by decide) ht HR4.out) (isK_no hG (by decide) ht HR5.out)]
                  rfl
                · rw [List.drop_of_length_le (by omega)]
                  rfl)
            have oF := oneX ⟨⟨0, 0, ⟨#[]⟩⟩, .nil⟩ (.slice Option.none 0 0) rfl
            have WF := Lib.hid (W5.out.trans V6.out)
            go_wp2_with (refine store_abs rfl 33 _ _ rfl w.heap.size 0 (xcells ⟨⟨0, 0, ⟨#[]⟩⟩, .nil⟩ (.slice Option.none 0 0)).toArray rfl rfl HT sizeIE2 oF ?_; intro W hW)
            have HW := Got5.close (x := ⟨⟨0, 0, ⟨#[]⟩⟩, .nil⟩) (u := .slice Option.none 0 0) (p := p) (res := resB bad (atomP (sumP d)) (ts.drop p)) hbN HT HE.out S6.out WF.out (Nat.le_refl _) HRel.out hW
            have hlv := run_loadVar_mid W w.heap.size 0 _ _ _ HW.2 Tryz.underlying33 rfl sizeIE2
            refine bodyPost_ret (v := .agg (xcells ⟨⟨0, 0, ⟨#[]⟩⟩, .nil⟩ (.slice Option.none 0 0)).toArray) ?_ rfl ⟨_, _, _, _, rfl, HW.1⟩
            simp [results, Tryz.results162, asAddr, hlv, Act.put]
            try rfl
end Go.Proofs.YtkhccpjkajhnpaaGreatDoor
/-
  The specification's reader: the contract of l5Mul.
-/
namespace Go.Proofs.YtkhccpjkajhnpaaGreatDoor
open Go.RowKit Go.Lib
set_option linter.unusedSimpArgs false
set_option linter.unusedVariables false

theorem EVx.two {n lo B c : Nat} {w : World} {x y : X} {u v : Value} (hx : EVx n w lo x.l u) (hy : EVx n w lo y.l v) (hr : w.rangeAt B 0 (xcells x u ++ xcells y v)) (hlo : lo ≤ B) (hne : B ≠ n) : EVx n w lo (.node 0 0 x.h x.l (.node 0 0 y.h y.l .nil)) (.slice (some ⟨B, 0, Option.none⟩) 2 c) := fun W hW => by
  have k : ∀ j z, (xcells x u ++ xcells y v)[j]? = some z → W.cell? ⟨B, 0 + j, Option.none⟩ = some z := fun j z hj => hW _ _ hlo hne (hr j z hj)
  exact ⟨B, 0, _, c, rfl, .inl rfl, hlo, EIn_node.2 ⟨⟨k 0 _ rfl, k 1 _ rfl, k 2 _ rfl, u, k 3 _ rfl, hx W hW⟩, EIn_node.2 ⟨⟨k 4 _ rfl, k 5 _ rfl, k 6 _ rfl, v, k 7 _ rfl, hy W hW⟩, trivial⟩⟩⟩
set_option maxHeartbeats 1000000 in
set_option maxRecDepth 100000 in
theorem l3Two_x (k : Int) (x y : X) (n lo : Nat) (w : World) (u v : Value) (hu : EVx n w lo x.l u) (hv : EVx n w lo y.l v) (hlo : lo ≤ w.heap.size) (hn : n < w.heap.size) : Calls Tryz.prog 107 #[.int .i64 k, .agg (xcells x u).toArray, .agg (xcells y v).toArray] w fun e w' => ∃ z, e = .returned (.agg (xcells (twoX k x y) z).toArray) ∧ EVx n w' lo (twoX k x y).l z ∧ Below w.heap.size w w' := by
  show Calls Tryz.prog 107 #[.int .i64 k, .agg #[.int .i64 x.h.k, .int .i64 x.h.n, .string x.h.s, u], .agg #[.int .i64 y.h.k, .int .i64 y.h.n, .string y.h.s, v]] w _
  have Hu := Lib.hid hu
  have Hv := Lib.hid hv
  obtain ⟨ua, uc, rfl⟩ := hu.ev.shape
  obtain ⟨va, vc, rfl⟩ := hv.ev.shape
  clear hu hv
  go_enter Tryz.func107, Tryz.ntmps107
  go_wp2
  have hb := (((alloc_below w (.cells #[.int .i64 x.h.k, .int .i64 x.h.n, .string x.h.s, .slice ua (elen x.l) uc] 33)).alloc (by simp) (.cells #[.int .i64 y.h.k, .int .i64 y.h.n, .string y.h.s, .slice va (elen y.l) vc] 33)).alloc (by simp; omega) (.cells #[.int .i64 k, .int .i64 0, .string ⟨#[]⟩, .slice (some ⟨w.heap.size + 1 + 1 + 1, 0, Option.none⟩) 2 2] 33)).alloc (by simp; omega) (.cells (xcells x (.slice ua (elen x.l) uc) ++ xcells y (.slice va (elen y.l) vc)).toArray 33)
  refine bodyPost_ret (v := .agg #[.int .i64 k, .int .i64 0, .string ⟨#[]⟩, .slice (some ⟨w.heap.size + 1 + 1 + 1, 0, Option.none⟩) 2 2]) (by simp [results, Tryz.results107, go_sem]) rfl ⟨_, rfl, EVx.two (Hu.out.later hb) (Hv.out.later hb) (last_range _ _ _ _ (by simp)) (by omega) (by omega), hb⟩
/-- A variable that holds an expression, between two readings. -/
structure MulS (b : Nat) (v : Value) (ts : List T) (deep : Int) (w : World) (n : Nat) (x : X) (u : Value) (p : Nat) (bad : Bool) (wr : World) : Prop where
  rg : wr.rangeAt n 0 (xcells x u)
  th : wr.there n 0 4
  tN : wr.there w.heap.size 0 4
  ev : EVx n wr (w.heap.size + 1) x.l u
  rd : Rd5 b v ts p deep bad wr
  wr : Wr b w wr
  hb : b < w.heap.size
  hn : w.heap.size < n
section
variable {b : Nat} {v : Value} {ts : List T} {deep : Int} {w : World} {n : Nat} {x : X} {u : Value} {p : Nat} {bad : Bool} {wr : World}
theorem MulS.lt (s : MulS b v ts deep w n x u p bad wr) : n < wr.heap.size := lt_of_cellA (s.rg 0 _ rfl)
theorem MulS.step {w' : World} {p' : Nat} {bad' : Bool} {deep' : Int} (s : MulS b v ts deep w n x u p bad wr) (hw : Wr b wr w') (hr : Rd5 b v ts p' deep' bad' w') : MulS b v ts deep' w n x u p' bad' w' :=
  ⟨range_wr5 s.rg hw (by have := s.hb; have := s.hn; omega), there_wr s.th hw (by have := s.hb; have := s.hn; omega), there_wr s.tN hw (by have := s.hb; omega), s.ev.wr hw (by have := s.hb; omega), hr, s.wr.trans hw, s.hb, s.hn⟩
theorem MulS.later {w' : World} (s : MulS b v ts deep w n x u p bad wr) (hb : Below wr.heap.size wr w') : MulS b v ts deep w n x u p bad w' := s.step (.of_below hb) (s.rd.later hb)
theorem Wr.setsOut {b n o : Nat} {w wr : World} {vs : List Value} (h : Wr b w wr) (hn : w.heap.size ≤ n) : Wr b w (wr.setCells n o vs) := by
  have hB : Below n wr (wr.setCells n o vs) := below_sets _ _ (Below.refl _ _) (Nat.le_refl _)
  exact ⟨hB.os.trans h.os, hB.tape.trans h.tape, hB.output.trans h.output, Nat.le_trans h.size hB.size, fun k hk hne => (hB.block k (by omega)).trans (h.block k hk hne)⟩
theorem Rd5.out {n o : Nat} {vs : List Value} (s : Rd5 b v ts p deep bad wr) (hn : b < n) : Rd5 b v ts p deep bad (wr.setCells n o vs) := by
  have hB : Below n wr (wr.setCells n o vs) := below_sets _ _ (Below.refl _ _) (Nat.le_refl _)
  refine ⟨World.rangeAt_setCells_apart s.rg _ _ _ (.inl (by omega)), World.there_setCells s.th _ _ _, ?_, s.hp, s.hts⟩
  obtain ⟨ao, cap, e, h⟩ := s.row
  refine ⟨ao, cap, e, ?_⟩
  rcases h with h | ⟨g, e2, hg, hc⟩
  · exact .inl h
  · have kc : ∀ (o : Nat) (z : Value), wr.cell? ⟨g, o, Option.none⟩ = some z → (wr.setCells n _ vs).cell? ⟨g, o, Option.none⟩ = some z := fun o z hz => (hB.cell (p := ⟨g, o, Option.none⟩) (show g < n by omega)).trans hz
    exact .inr ⟨g, e2, hg, fun i t hi => ⟨kc _ _ (hc i t hi).1, kc _ _ (hc i t hi).2.1, kc _ _ (hc i t hi).2.2⟩⟩
theorem MulS.put {x' : X} {u' : Value} {W : World} (s : MulS b v ts deep w n x u p bad wr) (he : EVx n wr (w.heap.size + 1) x'.l u') (hW : wr.setCells n 0 (xcells x' u') = W) : MulS b v ts deep w n x' u' p bad W := by
  subst hW
  exact ⟨World.rangeAt_setCells_same _ _ _ _ s.th, World.there_setCells s.th _ _ _, World.there_setCells s.tN _ _ _, he.sets _ _, s.rd.out (by have := s.hb; have := s.hn; omega), s.wr.setsOut (Nat.le_of_lt s.hn), s.hb, s.hn⟩
theorem MulS.new {w2 W : World} (hb : b < w.heap.size) (hN : w.heap.size + 1 ≤ w2.heap.size) (tN : w2.there w.heap.size 0 4) (he : EV w2 (w.heap.size + 1) x.l u) (rd : Rd5 b v ts p deep bad w2) (hw : Wr b w w2) (hW : (w2.alloc (.cells zero4 33)).setCells w2.heap.size 0 (xcells x u) = W) : MulS b v ts deep w w2.heap.size x u p bad W := by
  have HW := newblk4 x u hW
  refine ⟨HW.1, ?_, there_later tN HW.2, EVx.of_old he (b := b) (.of_below HW.2) (by omega) (Nat.le_refl _), rd.later HW.2, hw.trans (.of_below HW.2), hb, by omega⟩
  rw [← hW]
  exact World.there_setCells (newthere4 w2 _) _ _ _
end
/-- What is left of a product. -/
def MulR (ts : List T) (sub : List T → Rest) (tot : Rest) (x : X) (p : Nat) (bad : Bool) : Prop := (bad = true → tot = none) ∧ (bad = false → ∃ m, (ts.drop p).length ≤ m ∧ mulLoop sub m x (ts.drop p) = tot)
theorem drop_len (ts : List T) (p p' : Nat) (h : p ≤ p') : (ts.drop p').length ≤ (ts.drop p).length := by rw [List.length_drop, List.length_drop]; omega
theorem MulR.start {ts : List T} {sub : List T → Rest} {p p1 : Nat} {bad bad1 : Bool} {x : X} (hr : StE5 ts (resB bad (atomP sub) (ts.drop p)) x p1 bad1) (hle : p ≤ p1) : MulR ts sub (resB bad (mulP sub) (ts.drop p)) x p1 bad1 := by
  cases bad with
  | true => have h : bad1 = true := hr; subst h; exact ⟨fun _ => rfl, fun h => by cases h⟩
  | false =>
    show MulR ts sub (mulP sub (ts.drop p)) x p1 bad1
    have hr : StE5 ts (atomP sub (ts.drop p)) x p1 bad1 := hr
    unfold mulP
    cases h : atomP sub (ts.drop p) with
    | none => rw [h] at hr; have hr : bad1 = true := hr; subst hr; exact ⟨fun _ => rfl, fun h => by cases h⟩
    | some y =>
      obtain ⟨e, l1⟩ := y
      rw [h] at hr
      obtain ⟨rfl, rfl, rfl⟩ := hr
      exact ⟨fun h => (by cases h), fun _ => ⟨_, drop_len ts p p1 hle, rfl⟩⟩
theorem MulR.stop {ts : List T} (hG : ∀ t ∈ ts, Good t) {sub : List T → Rest} {tot : Rest} {p : Nat} {bad : Bool} {x : X} (h : MulR ts sub tot x p bad) (hR : isR bad 4 [42] (ts.drop p) = false) : StE5 ts tot x p bad := by
  cases bad with
  | true => rw [h.1 rfl]; rfl
  | false =>
    obtain ⟨m, _, e⟩ := h.2 rfl
    rw [mark_eat (by decide) false _ (drop_good hG p)] at hR
    have he : eat [42] (ts.drop p) = none := by
      cases h : eat [42] (ts.drop p) with
      | none => rfl
      | some l => rw [h] at hR; cases hR
    rw [← e]
    cases m with
    | zero => exact ⟨rfl, rfl, rfl⟩
    | succ m => unfold mulLoop; rw [he]; exact ⟨rfl, rfl, rfl⟩
theorem MulR.next {ts : List T} (hG : ∀ t ∈ ts, Good t) {sub : List T → Rest} {tot : Rest} {p p2 : Nat} {bad bad2 : Bool} {x x2 : X} (h : MulR ts sub tot x p bad) (hR : isR bad 4 [42] (ts.drop p) = true) (hr : StE5 ts (resB bad (atomP sub) (ts.drop (p + 1))) x2 p2 bad2) (hle : p + 1 ≤ p2) : MulR ts sub tot (twoX 6 x x2) p2 bad2 := by
  obtain ⟨rfl, t, ht, hs, hlt⟩ := isR_true hR
  obtain ⟨m, hm, e⟩ := h.2 rfl
  have he : eat [42] (ts.drop p) = some (ts.drop (p + 1)) := by rw [dropT ht]; simp [eat, hs]
  have hl := eat_len he
  cases m with
  | zero => omega
  | succ m =>
    unfold mulLoop at e
    rw [he] at e
    simp only at e
    have hr : StE5 ts (atomP sub (ts.drop (p + 1))) x2 p2 bad2 := hr
    cases ha : atomP sub (ts.drop (p + 1)) with
    | none => rw [ha] at hr e; have hr : bad2 = true := hr; subst hr; exact ⟨fun _ => e.symm, fun h => by cases h⟩
    | some y =>
      obtain ⟨y, l2⟩ := y
      rw [ha] at hr e
      obtain ⟨rfl, rfl, rfl⟩ := hr
      exact ⟨fun h => (by cases h), fun _ => ⟨m, by have := drop_len ts (p + 1) p2 hle; omega, e⟩⟩
def atOf (b : Nat) (wr : World) : Nat := match wr.cell? ⟨b, 1, Option.none⟩ with
  | some (.int _ n) => 601 - n.toNat
  | _ => 0
theorem atOf_rd {b : Nat} {v : Value} {ts : List T} {p : Nat} {deep : Int} {bad : Bool} {w : World} (s : Rd5 b v ts p deep bad w) : atOf b w = 601 - p := by unfold atOf; rw [s.cells.2.1]; simp
set_option maxHeartbeats 4000000 in
set_option maxRecDepth 100000 in
theorem l5Mul_of (b : Nat) (v : Value) (ts : List T) (hG : ∀ t ∈ ts, Good t) (d : Nat) (deep : Int) (p : Nat) (bad : Bool) (ih : bad = false → ∀ (p : Nat) (bad : Bool) (w : World), Rd5 b v ts p deep bad w → Calls Tryz.prog 52 #[.pointer (some ⟨b, 0, none⟩)] w (PostE b v ts deep (resB bad (sumP d) (ts.drop p)) p w)) (w : World) (st : Rd5 b v ts p deep bad w) :
    Calls Tryz.prog 113 #[.pointer (some ⟨b, 0, none⟩)] w (PostE b v ts deep (resB bad (mulP (sumP d)) (ts.drop p)) p w) := by
  have Hat := Lib.hid (fun (q : Nat) (c : Bool) (h : c = false → bad = false) => l5Atom_of b v ts hG d deep q c (fun e => ih (h e)))
  have hbN := st.lt
  have b0 := alloc_below w (.cells zero4 33)
  have S0 := Lib.hid (st.later b0)
  have T0 := Lib.hid (newthere4 w 33)
  have W0 := Lib.hid (Wr.of_below (b := b) b0)
  clear ih st b0
  go_enter Tryz.func113, Tryz.ntmps113
  go_wp2_with fail
  refine (Hat.out p bad (fun h => h) _ S0.out).mono ?_
  rintro e w2 ⟨x2, u2, p2, b2, rfl, g2⟩
  have o2 := oneX x2 u2 g2.ev.isOne
  have z2 := g2.wr.size
  rw [World.size_alloc] at z2
  have K2 := Lib.hid g2
  clear g2
  go_wp2_with (refine store_abs rfl 33 _ _ rfl w2.heap.size 0 (xcells x2 u2).toArray rfl rfl (newthere4 w2 _) sizeIE2 o2 ?_; intro W hW; have M2 := Lib.hid (MulS.new (w := w) (x := x2) (u := u2) hbN (by omega) (there_wr T0.out K2.out.wr (by omega)) (by have := K2.out.ev; rw [World.size_alloc] at this; exact this) K2.out.rd (W0.out.trans K2.out.wr) hW); clear hW)
  obtain ⟨n, hn⟩ : ∃ n, w2.heap.size = n := ⟨_, rfl⟩
  rw [hn] at M2 ⊢
  have R2 := Lib.hid (MulR.start K2.out.rel K2.out.le)
  have L2 := Lib.hid K2.out.le
  have B2 : Hid (b2 = false → bad = false) := Lib.hid (fun h => by cases bad with | false => rfl | true => have hr : b2 = true := K2.out.rel; rw [h] at hr; cases hr)
  obtain ⟨tot, Htot⟩ : ∃ r, Hid (resB bad (mulP (sumP d)) (ts.drop p) = r) := ⟨_, rfl⟩
  rw [Htot.out] at R2
  clear K2 hn z2 S0 T0 W0 o2
  simp only [Act.put]
  go_loopw [8] (fun _ wr => ∃ (x : X) (u : Value) (p1 : Nat) (bad1 : Bool), Hid (MulS b v ts deep w n x u p1 bad1 wr) ∧ Hid (MulR ts (sumP d) tot x p1 bad1) ∧ Hid (p ≤ p1) ∧ Hid (bad1 = false → bad = false)) (fun _ wr => atOf b wr)
  case atStart => exact ⟨x2, u2, p2, b2, M2, R2, L2, B2⟩
  case round =>
    obtain ⟨x, u, p1, bad1, hM, hRl, hL, hB⟩ := hrel
    clear M2 R2 L2 B2
    obtain ⟨R, HR⟩ : ∃ R, Hid (isR bad1 4 [42] (ts.drop p1) = R) := ⟨_, rfl⟩
    go_wp2_with fail
    refine (l5Mark_is b v ts p1 deep bad1 [42] R HR.out _ hM.out.rd).mono ?_
    rintro e w3 ⟨rfl, s3, h3⟩
    have M3 := Lib.hid (hM.out.step h3 s3)
    have A1 := Lib.hid (atOf_rd hM.out.rd)
    clear s3 h3
    cases R with
    | false =>
      have M3' : Hid (MulS b v ts deep w n x u p1 bad1 w3) := M3
      have HF := Lib.hid (hRl.out.stop hG HR.out)
      have th := M3'.out.tN
      have oF := oneX x u M3'.out.ev.ev.isOne
      clear M3
      go_wp2_with (first | (refine wpList_load_mid rfl 33 _ rfl n 0 rfl _ _ M3'.out.rg Tryz.underlying33 rfl sizeIE2 ?_) | (refine store_abs rfl 33 _ _ rfl w.heap.size 0 (xcells x u).toArray rfl rfl th sizeIE2 oF ?_; intro W hW))
      have HW := Got5.close (p := p) (res := tot) hbN th M3'.out.ev.ev M3'.out.rd M3'.out.wr hL.out HF.out hW
      have hlv := run_loadVar_mid W w.heap.size 0 _ _ _ HW.2 Tryz.underlying33 rfl sizeIE2
      refine bodyPost_ret (v := .agg (xcells x u).toArray) ?_ rfl ⟨x, u, _, _, rfl, by have h := HW.1; rw [← Htot.out] at h; exact h⟩
      simp [results, Tryz.results113, asAddr, hlv, Act.put]
      try rfl
    | true =>
      have M3' : Hid (MulS b v ts deep w n x u (p1 + 1) bad1 w3) := M3
      clear M3
      go_wp2_with fail
      refine (Hat.out (p1 + 1) bad1 hB.out _ M3'.out.rd).mono ?_
      rintro e w4 ⟨x4, u4, p4, b4, rfl, g4⟩
      have o4 := oneX x4 u4 g4.ev.isOne
      have M4 := Lib.hid (M3'.out.step g4.wr g4.rd)
      have E4 := Lib.hid (EVx.fresh (g := n) (lo := w.heap.size + 1) g4.ev (by have := M3'.out.lt; have := M3'.out.hn; omega) M3'.out.lt)
      have R4 := Lib.hid (hRl.out.next hG HR.out g4.rel g4.le)
      have L4 := Lib.hid g4.le
      have B4 : Hid (b4 = false → bad = false) := Lib.hid (fun _ => hB.out (isR_true HR.out).1)
      have N4 := M4.out.lt
      clear g4
      go_wp2_with (first | (refine store_abs rfl 33 _ _ rfl w4.heap.size 0 (xcells x4 u4).toArray rfl rfl (newthere4 w4 _) sizeIE2 o4 ?_; intro W hW; have HW4 := Lib.hid (newblk4 x4 u4 hW); clear hW; have M5 := Lib.hid (M4.out.later HW4.out.2); have E5 := Lib.hid (E4.out.later HW4.out.2); have rx := HW4.out.1) | (refine wpList_load_mid rfl 33 _ rfl n 0 rfl _ _ M5.out.rg Tryz.underlying33 rfl sizeIE2 ?_) | (refine wpList_load_mid rfl 33 _ rfl w4.heap.size 0 rfl _ _ rx Tryz.underlying33 rfl sizeIE2 ?_))
      have N5 := M5.out.lt
      have hn5 := M5.out.hn
      refine (l3Two_x 6 x x4 n (w.heap.size + 1) _ u u4 M5.out.ev E5.out (by omega) N5).mono ?_
      rintro e w6 ⟨z, rfl, e6, hb6⟩
      have o6 := oneX (twoX 6 x x4) z e6.ev.isOne
      have M6 := Lib.hid (M5.out.later hb6)
      have E6 := Lib.hid e6
      clear e6 hb6
      go_wp2_with (refine store_abs rfl 33 _ _ rfl n 0 (xcells (twoX 6 x x4) z).toArray rfl rfl M6.out.th sizeIE2 o6 ?_; intro W7 hW7; have M7 := Lib.hid (M6.out.put (x' := twoX 6 x x4) E6.out hW7); clear hW7)
      try simp only [Act.put]
      go_roundw
      case rel => exact ⟨twoX 6 x x4, z, p4, b4, M7, R4, Lib.hid (by have := hL.out; have := L4.out; omega), B4⟩
      case measure => rw [atOf_rd M7.out.rd, A1.out]; have := L4.out; have := M7.out.rd.hp; have := M7.out.rd.hts; omega
end Go.Proofs.YtkhccpjkajhnpaaGreatDoor
