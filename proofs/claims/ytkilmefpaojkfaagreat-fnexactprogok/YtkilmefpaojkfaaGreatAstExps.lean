/-
  The contracts of the landed code's expsOk and noExps, and of the specification's l3No.
-/
import Derived.Test.YtkilmefpaojkfaaGreatAstCnt
namespace Go.Proofs.YtkilmefpaojkfaaGreat
open Go.RowKit Go.Lib
set_option linter.unusedSimpArgs false
set_option linter.unusedVariables false

def zeroH : EH := ⟨0, 0, ⟨#[]⟩⟩
def noX (x : X) : Bool := hsame x.h zeroH && decide (elen x.l = 0)
def eall : EF → Bool
  | .nil => true
  | .node _ _ h l r => expOk ⟨h, l⟩ && eall r
def enone : EF → Bool
  | .nil => true
  | .node _ _ h l r => noX ⟨h, l⟩ && enone r
set_option maxHeartbeats 2000000 in
set_option maxRecDepth 100000 in
theorem expsOk_is (F : EF) (hF : enodes F ≤ 9000000) (w : World) (v : Value) (hv : EV w 0 F v) :
    Calls Tryz.prog 106 #[v] w fun e w' => e = .returned (.bool (eall F)) ∧ Below w.heap.size w w' := by
  obtain ⟨b, o, ao, cap, rfl, hao, _, hin⟩ := hv
  have hln : (elen F : Int) ≤ 9000000 := by have := elen_le F; omega
  go_enter Tryz.func106, Tryz.ntmps106
  go_wp2
  go_loopw [7] (fun i wr => ∃ (R : EF) (k : Nat), i = .int .i64 (k : Int) ∧ Hid (k + elen R = elen F ∧ enodes R ≤ 9000000 ∧ EIn w 0 R b (o + k * 4) ∧ eall F = eall R) ∧ Below w.heap.size w wr) (fun i _ => elen F - (RowKit.intOf i).toNat)
  case atStart => exact ⟨F, 0, rfl, ⟨by omega, hF, by simpa using hin, rfl⟩, Below.refl _ _⟩
  case round =>
    obtain ⟨R, k, rfl, hr, hbw⟩ := hrel
    obtain ⟨e1, e2, e3, e4⟩ := hr.out
    cases R with
    | nil =>
      have hk : ¬ (k : Int) < (elen F : Int) := by simp only [elen] at e1; omega
      have hf : Hid (eall F = true) := e4
      clear e4
      go_wp2
      go_ret
      exact retB hf.out hbw
    | node p q h l r =>
      have hlt : (k : Int) < (elen F : Int) := by simp only [elen] at e1; omega
      have hne : ¬ F = .nil := by intro e; subst e; simp only [elen] at e1; omega
      obtain rfl : ao = some ⟨b, o, Option.none⟩ := hao.resolve_right hne
      obtain ⟨⟨a0, a1, a2, u, a3, hu⟩, _⟩ := EIn_node.1 e3
      have Hrg := Lib.hid (rangeAt_later (x_range (x := ⟨h, l⟩) a0 a1 a2 a3) hbw)
      have i1 := hu.isOne
      have HU := Lib.hid hu
      simp only [enodes] at e2
      simp only [eall] at e4
      have He : Hid ((k + 1 + elen r = elen F ∧ enodes r ≤ 9000000 ∧ EIn w 0 r b (o + (k + 1) * 4)) ∧ eall F = (expOk ⟨h, l⟩ && eall r)) := ⟨⟨by simp only [elen] at e1; omega, by omega, by rw [show o + (k + 1) * 4 = o + k * 4 + 4 by omega]; exact (EIn_node.1 e3).2⟩, e4⟩
      have Hn : Hid (enodes l ≤ 9000000) := show enodes l ≤ 9000000 by omega
      obtain ⟨tv, htv⟩ : ∃ t, expOk ⟨h, l⟩ = t := ⟨_, rfl⟩
      have Htv := Lib.hid htv
      clear hr e1 e2 e3 e4 hne hao hu a0 a1 a2 a3 hin htv
      go_wp2_with (first | (refine wpList_load_mid rfl 55 _ rfl b (o + k * 4) rfl _ _ Hrg.out Tryz.underlying55 rfl sizeIE2 ?_) | (refine store_abs rfl 55 _ _ rfl _ _ _ rfl rfl ?ht sizeIE2 ?ho ?_; exact (newthere4 wr _); exact (oneX ⟨h, l⟩ u i1); intro W1 hW; have HW1 := Lib.hid (newblk4 ⟨h, l⟩ u hW); clear hW) | (refine wpList_load_mid rfl 55 _ rfl wr.heap.size 0 rfl _ _ HW1.out.1 Tryz.underlying55 rfl sizeIE2 ?_))
      refine (impl_ExpOk ⟨h, l⟩ Hn.out _ u (HU.out.later (hbw.trans (HW1.out.2.mono hbw.size)))).mono ?_
      rintro e w2 ⟨rfl, hb2⟩
      rw [Htv.out]
      have hbw2 := hbw.trans ((HW1.out.2.trans (hb2.mono HW1.out.2.size)).mono hbw.size)
      clear hb2 HW1 Hrg hbw i1
      cases tv with
      | false =>
        have hf : Hid (eall F = false) := show eall F = false by rw [He.out.2, Htv.out]; rfl
        go_wp2
        go_ret
        exact retB hf.out hbw2
      | true =>
        go_wp2
        go_roundw
        case rel => exact ⟨r, k + 1, by go_num, ⟨He.out.1.1, He.out.1.2.1, He.out.1.2.2, by rw [He.out.2, Htv.out]; rfl⟩, hbw2⟩
        case measure => simp [RowKit.intOf]; omega
set_option maxHeartbeats 2000000 in
set_option maxRecDepth 100000 in
theorem noExps_is (F : EF) (hF : elen F ≤ 9000000) (w : World) (v : Value) (hv : EV w 0 F v) :
    Calls Tryz.prog 107 #[v] w fun e w' => e = .returned (.bool (enone F)) ∧ Below w.heap.size w w' := by
  obtain ⟨b, o, ao, cap, rfl, hao, _, hin⟩ := hv
  have hln : (elen F : Int) ≤ 9000000 := by omega
  go_enter Tryz.func107, Tryz.ntmps107
  go_wp2
  go_loopw [7] (fun i wr => ∃ (R : EF) (k : Nat), i = .int .i64 (k : Int) ∧ Hid (k + elen R = elen F ∧ EIn w 0 R b (o + k * 4) ∧ enone F = enone R) ∧ Below w.heap.size w wr) (fun i _ => elen F - (RowKit.intOf i).toNat)
  case atStart => exact ⟨F, 0, rfl, ⟨by omega, by simpa using hin, rfl⟩, Below.refl _ _⟩
  case round =>
    obtain ⟨R, k, rfl, hr, hbw⟩ := hrel
    obtain ⟨e1, e3, e4⟩ := hr.out
    cases R with
    | nil =>
      have hk : ¬ (k : Int) < (elen F : Int) := by simp only [elen] at e1; omega
      have hf : Hid (enone F = true) := e4
      clear e4
      go_wp2
      go_ret
      exact retB hf.out hbw
    | node p q h l r =>
      have hlt : (k : Int) < (elen F : Int) := by simp only [elen] at e1; omega
      have hne : ¬ F = .nil := by intro e; subst e; simp only [elen] at e1; omega
      obtain rfl : ao = some ⟨b, o, Option.none⟩ := hao.resolve_right hne
      obtain ⟨⟨a0, a1, a2, u, a3, hu⟩, _⟩ := EIn_node.1 e3
      have Hrg := Lib.hid (rangeAt_later (x_range (x := ⟨h, l⟩) a0 a1 a2 a3) hbw)
      have i1 := hu.isOne
      obtain ⟨ua, uc, rfl⟩ := hu.shape
      simp only [enone] at e4
      have He : Hid ((k + 1 + elen r = elen F ∧ EIn w 0 r b (o + (k + 1) * 4)) ∧ enone F = (noX ⟨h, l⟩ && enone r)) := ⟨⟨by simp only [elen] at e1; omega, by rw [show o + (k + 1) * 4 = o + k * 4 + 4 by omega]; exact (EIn_node.1 e3).2⟩, e4⟩
      obtain ⟨tv, htv⟩ : ∃ t, hsame h zeroH = t := ⟨_, rfl⟩
      have Htv := Lib.hid htv
      have Hq : Hid (∀ w, Calls Tryz.prog 130 #[.agg (xcells ⟨h, l⟩ (.slice ua (elen l) uc)).toArray, .agg #[.int .i64 0, .int .i64 0, .string ⟨#[]⟩, .slice Option.none 0 0]] w fun e w' => e = .returned (.bool tv) ∧ Below w.heap.size w w') := fun w => by rw [← htv]; exact sameTop_is ⟨h, l⟩ ⟨zeroH, .nil⟩ (.slice ua (elen l) uc) (.slice Option.none 0 0) w
      clear hr e1 e3 e4 hne hao hu a0 a1 a2 a3 hin htv
      go_wp2_with (first | (refine wpList_load_mid rfl 55 _ rfl b (o + k * 4) rfl _ _ Hrg.out Tryz.underlying55 rfl sizeIE2 ?_) | (refine store_abs rfl 55 _ _ rfl _ _ _ rfl rfl ?ht sizeIE2 ?ho ?_; exact (newthere4 wr _); exact (oneX ⟨h, l⟩ _ i1); intro W1 hW; have HW1 := Lib.hid (newblk4 ⟨h, l⟩ _ hW); clear hW) | (refine wpList_load_mid rfl 55 _ rfl wr.heap.size 0 rfl _ _ HW1.out.1 Tryz.underlying55 rfl sizeIE2 ?_))
      refine (Hq.out _).mono ?_
      rintro e w2 ⟨rfl, hb2⟩
      have hbw2 := hbw.trans ((HW1.out.2.trans (hb2.mono HW1.out.2.size)).mono hbw.size)
      have c3 : w2.cell? ⟨wr.heap.size, 3, Option.none⟩ = some (.slice ua (elen l) uc) := by have := rangeAt_later HW1.out.1 hb2 3 _ rfl; rwa [Nat.zero_add] at this
      clear hb2 HW1 Hrg hbw i1 Hq
      cases tv with
      | false =>
        have hf : Hid (enone F = false) := show enone F = false by rw [He.out.2]; simp [noX, Htv.out]
        go_wp2
        go_ret
        exact retB hf.out hbw2
      | true =>
        by_cases hl : elen l = 0
        · have h1 : ¬ (0 : Int) < (elen l : Int) := by omega
          have Hf : Hid (enone F = enone r) := show enone F = enone r by rw [He.out.2]; simp [noX, Htv.out, hl]
          clear hl
          go_wp2
          go_roundw
          case rel => exact ⟨r, k + 1, by go_num, ⟨He.out.1.1, He.out.1.2, Hf.out⟩, hbw2⟩
          case measure => simp [RowKit.intOf]; omega
        · have h1 : (0 : Int) < (elen l : Int) := by omega
          have hf : Hid (enone F = false) := show enone F = false by rw [He.out.2]; simp [noX, hl]
          clear hl
          go_wp2
          go_ret
          exact retB hf.out hbw2
theorem noX_eq (x : X) : noX x = (decide (x.h.k = 0) && decide (x.h.n = 0) && decide (x.h.s.size = 0) && decide (elen x.l = 0)) := by
  have hs : decide (x.h.s = zeroH.s) = decide (x.h.s.size = 0) := by
    apply decide_eq_decide.2
    constructor
    · intro e; rw [e]; rfl
    · intro e
      apply ByteArray.ext
      have : x.h.s.data.toList = [] := List.length_eq_zero_iff.1 (by simpa using e)
      exact Array.toList_inj.1 (by rw [this]; rfl)
  unfold noX hsame
  rw [hs]
  rfl
set_option maxRecDepth 100000 in
theorem l3No_is (x : X) (w : World) (v : Value) (hv : EV w 0 x.l v) : Calls Tryz.prog 110 #[.agg #[.int .i64 x.h.k, .int .i64 x.h.n, .string x.h.s, v]] w fun e w' => e = .returned (.bool (noX x)) ∧ Below w.heap.size w w' := by
  obtain ⟨a, c, rfl⟩ := hv.shape
  obtain ⟨⟨k, n, s⟩, l⟩ := x
  have HE := Lib.hid (noX_eq ⟨⟨k, n, s⟩, l⟩)
  clear hv
  by_cases hk : k = 0
  case neg =>
    have hf : Hid (noX ⟨⟨k, n, s⟩, l⟩ = false) := show noX _ = false by rw [HE.out]; simp [hk]
    have h1 := int_ne hk
    go_enter Tryz.func110, Tryz.ntmps110
    go_wp2
    go_ret
    exact retB hf.out (alloc_below _ _)
  subst hk
  by_cases hn : n = 0
  case neg =>
    have hf : Hid (noX ⟨⟨0, n, s⟩, l⟩ = false) := show noX _ = false by rw [HE.out]; simp [hn]
    have h1 := int_ne hn
    go_enter Tryz.func110, Tryz.ntmps110
    go_wp2
    go_ret
    exact retB hf.out (alloc_below _ _)
  subst hn
  by_cases hs : s.size = 0
  case neg =>
    have hf : Hid (noX ⟨⟨0, 0, s⟩, l⟩ = false) := show noX _ = false by rw [HE.out]; simp [hs]
    have h1 := str_full hs
    clear hs
    go_enter Tryz.func110, Tryz.ntmps110
    go_wp2
    go_ret
    exact retB hf.out (alloc_below _ _)
  have h1 := str_empty hs
  by_cases hl : elen l = 0
  case neg =>
    have hf : Hid (noX ⟨⟨0, 0, s⟩, l⟩ = false) := show noX _ = false by rw [HE.out]; simp [hl]
    have h2 : ((elen l : Int) == 0) = false := int_ne (by omega)
    clear hs hl
    go_enter Tryz.func110, Tryz.ntmps110
    go_wp2
    go_ret
    exact retB hf.out (alloc_below _ _)
  have hf : Hid (noX ⟨⟨0, 0, s⟩, l⟩ = true) := show noX _ = true by rw [HE.out]; simp [hl, hs]
  have h2 : ((elen l : Int) == 0) = true := by rw [beq_iff_eq]; omega
  clear hs hl
  go_enter Tryz.func110, Tryz.ntmps110
  go_wp2
  go_ret
  exact retB hf.out (alloc_below _ _)
end Go.Proofs.YtkilmefpaojkfaaGreat
