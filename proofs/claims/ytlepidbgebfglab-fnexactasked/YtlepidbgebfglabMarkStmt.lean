/-
  The contract of markStmtS.
-/
import Derived.Test.YtlepidbgebfglabMarkTree
namespace Go.Proofs.Ytlepidbgebfglab
open Go.RowKit Go.Lib
set_option linter.unusedSimpArgs false
set_option linter.unusedVariables false

/-- One statement that may be written over. -/
structure StK (w : World) (lo hi : Nat) (h : SH) (b o : Nat) (v1 v2 v3 v4 v : Value) (S : World → Prop) : Prop where
  i0 : IntC w lo hi b o
  s1 : StrC w lo hi b (o + 1)
  x1 : XK w lo hi h.x1.l b (o + 2) v1
  x2 : XK w lo hi h.x2.l b (o + 6) v2
  x3 : XK w lo hi h.x3.l b (o + 10) v3
  x4 : XK w lo hi h.x4.l b (o + 14) v4
  c18 : w.cell? ⟨b, o + 18, Option.none⟩ = some v
  sl : ∃ p n c, v = .slice p n c
  sv : S w
/-- A row of statements that may be written over. -/
def SK (w : World) (lo hi : Nat) : SF → Nat → Nat → Prop
  | .nil, _, _ => True
  | .node _ _ h l r, b, o =>
    (∃ v1 v2 v3 v4 v, StK w lo hi h b o v1 v2 v3 v4 v (fun w => ∃ b' o' a' c', v = .slice a' (slen l) c' ∧ (a' = some ⟨b', o', Option.none⟩ ∨ l = .nil) ∧ SK w lo hi l b' o')) ∧ SK w lo hi r b (o + 19)
def SKV (w : World) (lo hi : Nat) (F : SF) (v : Value) : Prop := ∃ b o a c, v = .slice a (slen F) c ∧ (a = some ⟨b, o, Option.none⟩ ∨ F = .nil) ∧ SK w lo hi F b o
theorem StK.on' {w w' : World} {lo hi : Nat} {h : SH} {b o : Nat} {v1 v2 v3 v4 v : Value} {S : World → Prop} (k : StK w lo hi h b o v1 v2 v3 v4 v S) (m : Mk lo hi w w') (hs : S w → S w') : StK w' lo hi h b o v1 v2 v3 v4 v S := by
  obtain ⟨p, n, c, rfl⟩ := k.sl
  exact ⟨k.i0.mk m, k.s1.mk m, k.x1.on m, k.x2.on m, k.x3.on m, k.x4.on m, slice_mk k.c18 m, ⟨p, n, c, rfl⟩, hs k.sv⟩
theorem SK.mk {w w' : World} {lo hi : Nat} (m : Mk lo hi w w') : ∀ (F : SF) (b o : Nat), SK w lo hi F b o → SK w' lo hi F b o
  | .nil, _, _, _ => trivial
  | .node _ _ h l r, b, o, ⟨⟨v1, v2, v3, v4, v, k⟩, h5⟩ => ⟨⟨v1, v2, v3, v4, v, k.on' m (fun ⟨b', o', a', c', e1, e2, e3⟩ => ⟨b', o', a', c', e1, e2, SK.mk m l b' o' e3⟩)⟩, SK.mk m r b _ h5⟩
theorem SKV.mk {w w' : World} {lo hi : Nat} {F : SF} {v : Value} (h : SKV w lo hi F v) (m : Mk lo hi w w') : SKV w' lo hi F v := by
  obtain ⟨b, o, a, c, h1, h2, h3⟩ := h
  exact ⟨b, o, a, c, h1, h2, SK.mk m F b o h3⟩
abbrev StL (w : World) (lo hi : Nat) (h : SH) (l : SF) (b o : Nat) (v1 v2 v3 v4 v : Value) : Prop := StK w lo hi h b o v1 v2 v3 v4 v (fun w => SKV w lo hi l v)
theorem StK.on {w w' : World} {lo hi : Nat} {h : SH} {l : SF} {b o : Nat} {v1 v2 v3 v4 v : Value} (k : StL w lo hi h l b o v1 v2 v3 v4 v) (m : Mk lo hi w w') : StL w' lo hi h l b o v1 v2 v3 v4 v := k.on' m (fun s => s.mk m)
theorem SK.open {w : World} {lo hi p q b o : Nat} {h : SH} {l r : SF} (hk : SK w lo hi (.node p q h l r) b o) : (∃ v1 v2 v3 v4 v, StL w lo hi h l b o v1 v2 v3 v4 v) ∧ SK w lo hi r b (o + 19) := by
  obtain ⟨⟨v1, v2, v3, v4, v, k⟩, h5⟩ := hk
  exact ⟨⟨v1, v2, v3, v4, v, k.i0, k.s1, k.x1, k.x2, k.x3, k.x4, k.c18, k.sl, k.sv⟩, h5⟩
theorem XK.of {w : World} {lo b o : Nat} {x : X} (hb : lo ≤ b) (h : XCF w lo x b o) : ∃ v, XK w lo w.heap.size x.l b o v := by
  obtain ⟨h0, h1, h2, v, h3, h4⟩ := h
  exact ⟨v, int_of h0 hb, int_of h1 hb, str_of h2 hb, (rdF_iff.1 h3).2, EKV.of h4⟩
theorem SK.of {w : World} {lo : Nat} : ∀ (F : SF) (b o : Nat), lo ≤ b → SInF w lo F b o → SK w lo w.heap.size F b o
  | .nil, _, _, _, _ => trivial
  | .node _ _ h l r, b, o, hb, ⟨⟨h0, h1, h2, h3, h4, h5, v, h6, b', o', a', c', e1, e2, e3, h7⟩, h8⟩ => by
    obtain ⟨v1, k1⟩ := XK.of hb h2
    obtain ⟨v2, k2⟩ := XK.of hb h3
    obtain ⟨v3, k3⟩ := XK.of hb h4
    obtain ⟨v4, k4⟩ := XK.of hb h5
    exact ⟨⟨v1, v2, v3, v4, v, int_of h0 hb, str_of h1 hb, k1, k2, k3, k4, (rdF_iff.1 h6).2, ⟨_, _, _, e1⟩, b', o', a', c', e1, e2, SK.of l b' o' e3 h7⟩, SK.of r b _ hb h8⟩
theorem SKV.of {w : World} {lo : Nat} {F : SF} {v : Value} (h : SVF w lo F v) : SKV w lo w.heap.size F v := by
  obtain ⟨b, o, a, c, h1, h2, h3, h4⟩ := h
  exact ⟨b, o, a, c, h1, h2, SK.of F b o h3 h4⟩
/-- How many marks there are at most. -/
def smk : SF → Nat
  | .nil => 0
  | .node _ _ h l r => 14 + 3 * (enodes h.x1.l + enodes h.x2.l + enodes h.x3.l + enodes h.x4.l) + smk l + smk r
theorem smk_le : ∀ F : SF, smk F ≤ 14 * ssize F
  | .nil => Nat.le_refl _
  | .node _ _ h l r => by
    have := smk_le l; have := smk_le r
    have := enodes_le h.x1.l; have := enodes_le h.x2.l; have := enodes_le h.x3.l; have := enodes_le h.x4.l
    simp only [smk, ssize, hsize, xsize]; omega
set_option maxHeartbeats 8000000 in
set_option maxRecDepth 100000 in
theorem markStmtS_step (lo hi : Nat) (F : SF)
    (ih : ∀ l : SF, snodes l < snodes F → ∀ (m : Int) (w : World) (v : Value), 1 ≤ m → m + (smk l : Int) ≤ 20000000 → SKV w lo hi l v → Calls Try.prog 12 #[v, .int .i64 m] w fun e w' => ∃ r : Int, e = .returned (.int .i64 r) ∧ m ≤ r ∧ r ≤ m + (smk l : Int) ∧ Mk lo hi w w')
    (m : Int) (w : World) (v : Value) (h1 : 1 ≤ m) (hm : m + (smk F : Int) ≤ 20000000) (hv : SKV w lo hi F v) :
    Calls Try.prog 12 #[v, .int .i64 m] w fun e w' => ∃ r : Int, e = .returned (.int .i64 r) ∧ m ≤ r ∧ r ≤ m + (smk F : Int) ∧ Mk lo hi w w' := by
  obtain ⟨b, o, ao, cap, rfl, hao, hin⟩ := hv
  have Hih := Lib.hid ih
  have hlenF : slen F ≤ 20000000 := by
    have h2 : ∀ G : SF, slen G ≤ smk G := fun G => by
      induction G with
      | nil => exact Nat.le_refl _
      | node _ _ h l r _ ihr => simp only [slen, smk]; omega
    have := h2 F; omega
  clear ih
  go_enter Try.func12, Try.ntmps12
  go_wp2
  go_loopw [1, 5] (fun x i wr => ∃ (R : SF) (j : Nat) (c : Int), i = .int .i64 (j : Int) ∧ x = .int .i64 c ∧ Hid (j + slen R = slen F ∧ c + (smk R : Int) ≤ m + (smk F : Int) ∧ snodes R ≤ snodes F ∧ m ≤ c) ∧ Hid (SK wr lo hi R b (o + j * 19)) ∧ Hid (Mk lo hi w wr)) (fun _ i _ => slen F - (RowKit.intOf i).toNat)
  case atStart => exact ⟨F, 0, m, rfl, rfl, ⟨by omega, by omega, by omega, by omega⟩, (by show SK w lo hi F b (o + 0 * 19); simpa using hin), Mk.refl _ _ _⟩
  case round =>
    obtain ⟨R, j, c, rfl, rfl, hr, hek, MK⟩ := hrel
    obtain ⟨e1, e2, e3, e4⟩ := hr.out
    cases R with
    | nil =>
      have hk : ¬ (j : Int) < (slen F : Int) := by simp only [slen] at e1; omega
      simp only [smk] at e2
      go_wp2
      go_ret
      exact ⟨_, rfl, e4, by omega, MK.out⟩
    | node p q h l r =>
      have hlt : (j : Int) < (slen F : Int) := by simp only [slen] at e1; omega
      have hne : ¬ F = .nil := by intro e; subst e; simp only [slen] at e1; omega
      obtain rfl : ao = some ⟨b, o, Option.none⟩ := hao.resolve_right hne
      obtain ⟨⟨v1, v2, v3, v4, u, hx⟩, hrr⟩ := SK.open hek.out
      simp only [snodes] at e3
      have Hl := Lib.hid (Hih.out l (by omega))
      have He : Hid (j + 1 + slen r = slen F ∧ snodes r ≤ snodes F) := ⟨by simp only [slen] at e1; omega, by omega⟩
      have hcI : c + 14 + 3 * (enodes h.x1.l : Int) + 3 * (enodes h.x2.l : Int) + 3 * (enodes h.x3.l : Int) + 3 * (enodes h.x4.l : Int) + (smk l : Int) + (smk r : Int) ≤ m + (smk F : Int) := by simp only [smk] at e2; omega
      have ST := Lib.hid hx
      have RK := Lib.hid hrr
      clear hr e1 e2 e3 hin hne hao hek hx hrr
      go_wp2_with (refine store_int rfl _ _ 3 rfl b _ _ rfl rfl sizeI1 ST.out.i0 ?_; intro W hW; have ST := Lib.hid (ST.out.on hW); have RK := Lib.hid (SK.mk hW _ _ _ RK.out); have MK := Lib.hid (MK.out.trans hW); clear hW)
      refine (markTextI (c + 1) (by omega) (by omega) _).mono ?_
      rintro e wt0 ⟨t0, rfl, hb⟩
      have hW : Mk lo hi _ wt0 := Mk.of hb
      have ST := Lib.hid (ST.out.on hW)
      have RK := Lib.hid (SK.mk hW _ _ _ RK.out)
      have MK := Lib.hid (MK.out.trans hW)
      clear hb hW
      go_wp2_with (first | (refine store_str rfl _ _ 9 rfl b _ _ rfl rfl sizeT1 ST.out.s1 ?_; intro W hW; have ST := Lib.hid (ST.out.on hW); have RK := Lib.hid (SK.mk hW _ _ _ RK.out); have MK := Lib.hid (MK.out.trans hW); clear hW) | (refine store_int rfl _ _ 3 rfl b _ _ rfl rfl sizeI1 ST.out.x1.i0 ?_; intro W hW; have ST := Lib.hid (ST.out.on hW); have RK := Lib.hid (SK.mk hW _ _ _ RK.out); have MK := Lib.hid (MK.out.trans hW); clear hW) | (refine store_int rfl _ _ 3 rfl b _ _ rfl rfl sizeI1 ST.out.x1.i1 ?_; intro W hW; have ST := Lib.hid (ST.out.on hW); have RK := Lib.hid (SK.mk hW _ _ _ RK.out); have MK := Lib.hid (MK.out.trans hW); clear hW))
      refine (markTextI (c + 1 + 1 + 1 + 1) (by omega) (by omega) _).mono ?_
      rintro e wt1 ⟨t1, rfl, hb⟩
      have hW : Mk lo hi _ wt1 := Mk.of hb
      have ST := Lib.hid (ST.out.on hW)
      have RK := Lib.hid (SK.mk hW _ _ _ RK.out)
      have MK := Lib.hid (MK.out.trans hW)
      clear hb hW
      have cc1 := ST.out.x1.c3
      go_wp2_with (first | (refine store_str rfl _ _ 9 rfl b _ _ rfl rfl sizeT1 ST.out.x1.s2 ?_; intro W hW; have ST := Lib.hid (ST.out.on hW); have RK := Lib.hid (SK.mk hW _ _ _ RK.out); have MK := Lib.hid (MK.out.trans hW); clear hW; have cc1 := ST.out.x1.c3))
      refine (markExpS_is lo hi _ (c + 1 + 1 + 1 + 1 + 1) _ v1 (by omega) (by omega) ST.out.x1.ev).mono ?_
      rintro e we1 ⟨r1, rfl, g1a, g1b, hW⟩
      have ST := Lib.hid (ST.out.on hW)
      have RK := Lib.hid (SK.mk hW _ _ _ RK.out)
      have MK := Lib.hid (MK.out.trans hW)
      clear hW cc1
      go_wp2_with (first | (refine store_int rfl _ _ 3 rfl b _ _ rfl rfl sizeI1 ST.out.x2.i0 ?_; intro W hW; have ST := Lib.hid (ST.out.on hW); have RK := Lib.hid (SK.mk hW _ _ _ RK.out); have MK := Lib.hid (MK.out.trans hW); clear hW) | (refine store_int rfl _ _ 3 rfl b _ _ rfl rfl sizeI1 ST.out.x2.i0 ?_; intro W hW; have ST := Lib.hid (ST.out.on hW); have RK := Lib.hid (SK.mk hW _ _ _ RK.out); have MK := Lib.hid (MK.out.trans hW); clear hW) | (refine store_int rfl _ _ 3 rfl b _ _ rfl rfl sizeI1 ST.out.x2.i1 ?_; intro W hW; have ST := Lib.hid (ST.out.on hW); have RK := Lib.hid (SK.mk hW _ _ _ RK.out); have MK := Lib.hid (MK.out.trans hW); clear hW))
      refine (markTextI (r1 + 1 + 1) (by omega) (by omega) _).mono ?_
      rintro e wt2 ⟨t2, rfl, hb⟩
      have hW : Mk lo hi _ wt2 := Mk.of hb
      have ST := Lib.hid (ST.out.on hW)
      have RK := Lib.hid (SK.mk hW _ _ _ RK.out)
      have MK := Lib.hid (MK.out.trans hW)
      clear hb hW
      have cc2 := ST.out.x2.c3
      go_wp2_with (first | (refine store_str rfl _ _ 9 rfl b _ _ rfl rfl sizeT1 ST.out.x2.s2 ?_; intro W hW; have ST := Lib.hid (ST.out.on hW); have RK := Lib.hid (SK.mk hW _ _ _ RK.out); have MK := Lib.hid (MK.out.trans hW); clear hW; have cc2 := ST.out.x2.c3))
      refine (markExpS_is lo hi _ (r1 + 1 + 1 + 1) _ v2 (by omega) (by omega) ST.out.x2.ev).mono ?_
      rintro e we2 ⟨r2, rfl, g2a, g2b, hW⟩
      have ST := Lib.hid (ST.out.on hW)
      have RK := Lib.hid (SK.mk hW _ _ _ RK.out)
      have MK := Lib.hid (MK.out.trans hW)
      clear hW cc2
      go_wp2_with (first | (refine store_int rfl _ _ 3 rfl b _ _ rfl rfl sizeI1 ST.out.x3.i0 ?_; intro W hW; have ST := Lib.hid (ST.out.on hW); have RK := Lib.hid (SK.mk hW _ _ _ RK.out); have MK := Lib.hid (MK.out.trans hW); clear hW) | (refine store_int rfl _ _ 3 rfl b _ _ rfl rfl sizeI1 ST.out.x3.i0 ?_; intro W hW; have ST := Lib.hid (ST.out.on hW); have RK := Lib.hid (SK.mk hW _ _ _ RK.out); have MK := Lib.hid (MK.out.trans hW); clear hW) | (refine store_int rfl _ _ 3 rfl b _ _ rfl rfl sizeI1 ST.out.x3.i1 ?_; intro W hW; have ST := Lib.hid (ST.out.on hW); have RK := Lib.hid (SK.mk hW _ _ _ RK.out); have MK := Lib.hid (MK.out.trans hW); clear hW))
      refine (markTextI (r2 + 1 + 1) (by omega) (by omega) _).mono ?_
      rintro e wt3 ⟨t3, rfl, hb⟩
      have hW : Mk lo hi _ wt3 := Mk.of hb
      have ST := Lib.hid (ST.out.on hW)
      have RK := Lib.hid (SK.mk hW _ _ _ RK.out)
      have MK := Lib.hid (MK.out.trans hW)
      clear hb hW
      have cc3 := ST.out.x3.c3
      go_wp2_with (first | (refine store_str rfl _ _ 9 rfl b _ _ rfl rfl sizeT1 ST.out.x3.s2 ?_; intro W hW; have ST := Lib.hid (ST.out.on hW); have RK := Lib.hid (SK.mk hW _ _ _ RK.out); have MK := Lib.hid (MK.out.trans hW); clear hW; have cc3 := ST.out.x3.c3))
      refine (markExpS_is lo hi _ (r2 + 1 + 1 + 1) _ v3 (by omega) (by omega) ST.out.x3.ev).mono ?_
      rintro e we3 ⟨r3, rfl, g3a, g3b, hW⟩
      have ST := Lib.hid (ST.out.on hW)
      have RK := Lib.hid (SK.mk hW _ _ _ RK.out)
      have MK := Lib.hid (MK.out.trans hW)
      clear hW cc3
      go_wp2_with (first | (refine store_int rfl _ _ 3 rfl b _ _ rfl rfl sizeI1 ST.out.x4.i0 ?_; intro W hW; have ST := Lib.hid (ST.out.on hW); have RK := Lib.hid (SK.mk hW _ _ _ RK.out); have MK := Lib.hid (MK.out.trans hW); clear hW) | (refine store_int rfl _ _ 3 rfl b _ _ rfl rfl sizeI1 ST.out.x4.i0 ?_; intro W hW; have ST := Lib.hid (ST.out.on hW); have RK := Lib.hid (SK.mk hW _ _ _ RK.out); have MK := Lib.hid (MK.out.trans hW); clear hW) | (refine store_int rfl _ _ 3 rfl b _ _ rfl rfl sizeI1 ST.out.x4.i1 ?_; intro W hW; have ST := Lib.hid (ST.out.on hW); have RK := Lib.hid (SK.mk hW _ _ _ RK.out); have MK := Lib.hid (MK.out.trans hW); clear hW))
      refine (markTextI (r3 + 1 + 1) (by omega) (by omega) _).mono ?_
      rintro e wt4 ⟨t4, rfl, hb⟩
      have hW : Mk lo hi _ wt4 := Mk.of hb
      have ST := Lib.hid (ST.out.on hW)
      have RK := Lib.hid (SK.mk hW _ _ _ RK.out)
      have MK := Lib.hid (MK.out.trans hW)
      clear hb hW
      have cc4 := ST.out.x4.c3
      go_wp2_with (first | (refine store_str rfl _ _ 9 rfl b _ _ rfl rfl sizeT1 ST.out.x4.s2 ?_; intro W hW; have ST := Lib.hid (ST.out.on hW); have RK := Lib.hid (SK.mk hW _ _ _ RK.out); have MK := Lib.hid (MK.out.trans hW); clear hW; have cc4 := ST.out.x4.c3))
      refine (markExpS_is lo hi _ (r3 + 1 + 1 + 1) _ v4 (by omega) (by omega) ST.out.x4.ev).mono ?_
      rintro e we4 ⟨r4, rfl, g4a, g4b, hW⟩
      have ST := Lib.hid (ST.out.on hW)
      have RK := Lib.hid (SK.mk hW _ _ _ RK.out)
      have MK := Lib.hid (MK.out.trans hW)
      clear hW cc4
      have c18 := ST.out.c18
      go_wp2_with fail
      refine (Hl.out r4 _ u (by omega) (by omega) ST.out.sv).mono ?_
      rintro e w6 ⟨r6, rfl, g1, g2, m6⟩
      have RK := Lib.hid (SK.mk m6 _ _ _ RK.out)
      have MK := Lib.hid (MK.out.trans m6)
      clear m6 ST c18
      go_wp2
      go_roundw
      case rel => exact ⟨r, j + 1, r6, by go_num, rfl, ⟨He.out.1, by omega, He.out.2, by omega⟩, (by rw [show o + (j + 1) * 19 = o + j * 19 + 19 by omega]; exact RK.out), MK.out⟩
      case measure => simp [RowKit.intOf]; omega
theorem markStmtS_all (lo hi : Nat) : ∀ (n : Nat) (F : SF), snodes F < n → ∀ (m : Int) (w : World) (v : Value), 1 ≤ m → m + (smk F : Int) ≤ 20000000 → SKV w lo hi F v → Calls Try.prog 12 #[v, .int .i64 m] w fun e w' => ∃ r : Int, e = .returned (.int .i64 r) ∧ m ≤ r ∧ r ≤ m + (smk F : Int) ∧ Mk lo hi w w'
  | 0, _, h, _, _, _, _, _, _ => absurd h (by omega)
  | n + 1, F, h, m, w, v, h1, h2, hv => markStmtS_step lo hi F (fun l hl m w v h1 h2 hv => markStmtS_all lo hi n l (by omega) m w v h1 h2 hv) m w v h1 h2 hv
theorem markStmtS_is (lo hi : Nat) (F : SF) (m : Int) (w : World) (v : Value) (h1 : 1 ≤ m) (h2 : m + (smk F : Int) ≤ 20000000) (hv : SKV w lo hi F v) :
    Calls Try.prog 12 #[v, .int .i64 m] w fun e w' => ∃ r : Int, e = .returned (.int .i64 r) ∧ m ≤ r ∧ r ≤ m + (smk F : Int) ∧ Mk lo hi w w' := markStmtS_all lo hi _ F (Nat.lt_succ_self _) m w v h1 h2 hv
end Go.Proofs.Ytlepidbgebfglab
