import Derived.Test.YtpinockfakndlaaGreatP27ofFnEvals
namespace Go.Proofs.YtpinockfakndlaaGreat
open Go.RowKit Go.Lib
set_option maxRecDepth 100000
set_option maxHeartbeats 4000000
set_option linter.unusedSimpArgs false
set_option linter.unusedVariables false
abbrev xagg (x : X) (v : Value) : Value := .agg #[.int .i64 x.h.k, .int .i64 x.h.n, .string x.h.s, v]
theorem l4Exp_step (k : Int) (x : X)
    (ih : ∀ y : X, enodes y.l < enodes x.l → ∀ (out : List ByteArray) (w : World) (vo v : Value), out.length + enodes y.l + 1 ≤ 10000000 → TV w 0 vo out → EV w 0 y.l v → Calls Tryz.prog 117 #[vo, xagg y v, .int .i64 k] w fun e w' => ∃ v', e = .returned v' ∧ TV w' 0 v' (nmX k y out) ∧ Below w.heap.size w w')
    (out : List ByteArray) (w : World) (vo v : Value) (hN : out.length + enodes x.l + 1 ≤ 10000000) (ho : TV w 0 vo out) (hv : EV w 0 x.l v) :
    Calls Tryz.prog 117 #[vo, xagg x v, .int .i64 k] w fun e w' => ∃ v', e = .returned v' ∧ TV w' 0 v' (nmX k x out) ∧ Below w.heap.size w w' := by
  obtain ⟨b, o, ao, cap, rfl, hao, _, hin⟩ := hv
  have Hih := hid ih
  have hlenF := elen_le x.l
  have hB0 := aB w (.cells #[.int .i64 x.h.k, .int .i64 x.h.n, .string x.h.s, .slice ao (elen x.l) cap] 43)
  have ho1 := hid (ho.later hB0)
  have hin1 := hid (EIn_later hB0 _ _ _ hin)
  obtain ⟨oa, oc, rfl⟩ := ho.shape
  obtain ⟨W1, hW1⟩ : ∃ W1, W1 = w.alloc (.cells #[.int .i64 x.h.k, .int .i64 x.h.n, .string x.h.s, .slice ao (elen x.l) cap] 43) := ⟨_, rfl⟩
  have hcl : ∀ (w' : World), Below W1.heap.size W1 w' → w'.cell? ⟨w.heap.size, 3, Option.none⟩ = some (.slice ao (elen x.l) cap) := fun w' hb => by rw [hW1] at hb; exact box_cell (i := 3) hb rfl
  have Hcl := hid hcl
  have HB0 : Hid (Below w.heap.size w W1) := by rw [hW1]; exact hB0
  rw [← hW1] at ho1 hin1
  clear ih ho hin hcl hB0
  by_cases hk : x.h.k = k
  · have Hnm : Hid (nmX k x out = nmE k x.l (putR x.h.s false out)) := show nmX k x out = _ by unfold nmX; rw [if_pos hk]
    subst hk
    go_enter Tryz.func117, Tryz.ntmps117
    go_wp2_with fail
    rw [← hW1]
    refine (l4Put_is out (by omega) x.h.s _ _ ho1.out).mono ?_
    rintro e w2 ⟨v1, rfl, hv1, hb1⟩
    have hl1 := putR_len x.h.s false out
    have HV1 := hid hv1.low
    clear hv1 hW1
    go_wp2
    go_loopw [0, 7] (fun y i wr => ∃ (R : EF) (j : Nat) (os : List ByteArray), i = .int .i64 (j : Int) ∧ TV wr 0 y os ∧ Hid (j + elen R = elen x.l ∧ os.length + enodes R ≤ out.length + 1 + enodes x.l ∧ enodes R ≤ enodes x.l ∧ nmE x.h.k R os = nmE x.h.k x.l (putR x.h.s false out) ∧ EIn W1 0 R b (o + j * 4)) ∧ Below W1.heap.size W1 wr) (fun _ i _ => elen x.l - (RowKit.intOf i).toNat)
    case atStart => exact ⟨x.l, 0, putR x.h.s false out, rfl, HV1.out, ⟨by omega, by omega, by omega, rfl, by simpa using hin1.out⟩, hb1⟩
    case round =>
      obtain ⟨R, j, os, rfl, hos, hr, hbw⟩ := hrel
      obtain ⟨e1, e2, e3, e4, e5⟩ := hr.out
      obtain ⟨ya, yc, rfl⟩ := hos.shape
      have hcl := Hcl.out _ hbw
      cases R with
      | nil =>
        have hk : ¬ (j : Int) < (elen x.l : Int) := by simp only [elen] at e1; omega
        have E := hid (show os = nmX x.h.k x out by rw [Hnm.out]; exact e4)
        have HBW := hid (HB0.out.trans (hbw.mono HB0.out.size))
        have HO := hid hos
        clear hr e4 hbw hos
        go_wp2
        go_ret
        exact ⟨_, rfl, by rw [← E.out]; exact HO.out, HBW.out⟩
      | node p q h l r =>
        have hlt : (j : Int) < (elen x.l : Int) := by simp only [elen] at e1; omega
        have hne2 : ¬ x.l = .nil := by intro e; rw [e] at e1; simp only [elen] at e1; omega
        obtain rfl : ao = some ⟨b, o, Option.none⟩ := hao.resolve_right hne2
        obtain ⟨hxc, hrr⟩ := EIn_node.1 e5
        obtain ⟨c0, c1, c2, u, c3, hu⟩ := XC.later hxc hbw
        simp only [enodes] at e2 e3
        have Hl := hid (Hih.out ⟨h, l⟩ (show enodes l < _ by omega))
        have HU := hid (And.intro hu hos)
        have He : Hid (j + 1 + elen r = elen x.l ∧ enodes r ≤ enodes x.l ∧ EIn W1 0 r b (o + (j + 1) * 4) ∧ os.length + (enodes l + enodes r + 1) ≤ out.length + 1 + enodes x.l ∧ nmE x.h.k r (nmX x.h.k ⟨h, l⟩ os) = nmE x.h.k x.l (putR x.h.s false out)) :=
          ⟨by simp only [elen] at e1; omega, by omega, by rw [show o + (j + 1) * 4 = o + j * 4 + 4 by omega]; exact hrr, by omega, e4⟩
        clear hr e1 e2 e3 e4 e5 hne2 hao hu hos hrr hxc
        go_wp2_with fail
        refine (Hl.out os _ _ u (show os.length + enodes l + 1 ≤ 10000000 by have := He.out; omega) HU.out.2 HU.out.1).mono ?_
        rintro e w3 ⟨v3, rfl, hv3, hb3⟩
        have hbw3 := hbw.trans (hb3.mono hbw.size)
        have hl3 : (nmX x.h.k ⟨h, l⟩ os).length ≤ os.length + enodes l + 1 := nmX_len x.h.k ⟨h, l⟩ os
        have HV3 := hid hv3
        clear hv3 hb3 c0 c1 c2 c3 hbw hcl
        go_wp2
        go_roundw
        case rel =>
          have E := He.out
          exact ⟨r, j + 1, nmX x.h.k ⟨h, l⟩ os, by go_num, HV3.out, ⟨E.1, by omega, E.2.1, E.2.2.2.2, E.2.2.1⟩, hbw3⟩
        case measure => simp [RowKit.intOf]; omega
  · have Hnm : Hid (nmX k x out = nmE k x.l out) := show nmX k x out = _ by unfold nmX; rw [if_neg hk]
    have hne := int_ne hk
    go_enter Tryz.func117, Tryz.ntmps117
    go_wp2
    rw [← hW1]
    go_loopw [0, 7] (fun y i wr => ∃ (R : EF) (j : Nat) (os : List ByteArray), i = .int .i64 (j : Int) ∧ TV wr 0 y os ∧ Hid (j + elen R = elen x.l ∧ os.length + enodes R ≤ out.length + 1 + enodes x.l ∧ enodes R ≤ enodes x.l ∧ nmE k R os = nmE k x.l out ∧ EIn W1 0 R b (o + j * 4)) ∧ Below W1.heap.size W1 wr) (fun _ i _ => elen x.l - (RowKit.intOf i).toNat)
    case atStart => exact ⟨x.l, 0, out, rfl, ho1.out, ⟨by omega, by omega, by omega, rfl, by simpa using hin1.out⟩, Below.refl _ _⟩
    case round =>
      obtain ⟨R, j, os, rfl, hos, hr, hbw⟩ := hrel
      obtain ⟨e1, e2, e3, e4, e5⟩ := hr.out
      obtain ⟨ya, yc, rfl⟩ := hos.shape
      have hcl := Hcl.out _ hbw
      cases R with
      | nil =>
        have hk : ¬ (j : Int) < (elen x.l : Int) := by simp only [elen] at e1; omega
        have E := hid (show os = nmX k x out by rw [Hnm.out]; exact e4)
        have HBW := hid (HB0.out.trans (hbw.mono HB0.out.size))
        have HO := hid hos
        clear hr e4 hbw hos
        go_wp2
        go_ret
        exact ⟨_, rfl, by rw [← E.out]; exact HO.out, HBW.out⟩
      | node p q h l r =>
        have hlt : (j : Int) < (elen x.l : Int) := by simp only [elen] at e1; omega
        have hne2 : ¬ x.l = .nil := by intro e; rw [e] at e1; simp only [elen] at e1; omega
        obtain rfl : ao = some ⟨b, o, Option.none⟩ := hao.resolve_right hne2
        obtain ⟨hxc, hrr⟩ := EIn_node.1 e5
        obtain ⟨c0, c1, c2, u, c3, hu⟩ := XC.later hxc hbw
        simp only [enodes] at e2 e3
        have Hl := hid (Hih.out ⟨h, l⟩ (show enodes l < _ by omega))
        have HU := hid (And.intro hu hos)
        have He : Hid (j + 1 + elen r = elen x.l ∧ enodes r ≤ enodes x.l ∧ EIn W1 0 r b (o + (j + 1) * 4) ∧ os.length + (enodes l + enodes r + 1) ≤ out.length + 1 + enodes x.l ∧ nmE k r (nmX k ⟨h, l⟩ os) = nmE k x.l out) :=
          ⟨by simp only [elen] at e1; omega, by omega, by rw [show o + (j + 1) * 4 = o + j * 4 + 4 by omega]; exact hrr, by omega, e4⟩
        clear hr e1 e2 e3 e4 e5 hne2 hao hu hos hrr hxc
        go_wp2_with fail
        refine (Hl.out os _ _ u (show os.length + enodes l + 1 ≤ 10000000 by have := He.out; omega) HU.out.2 HU.out.1).mono ?_
        rintro e w3 ⟨v3, rfl, hv3, hb3⟩
        have hbw3 := hbw.trans (hb3.mono hbw.size)
        have hl3 : (nmX k ⟨h, l⟩ os).length ≤ os.length + enodes l + 1 := nmX_len k ⟨h, l⟩ os
        have HV3 := hid hv3
        clear hv3 hb3 c0 c1 c2 c3 hbw hcl
        go_wp2
        go_roundw
        case rel =>
          have E := He.out
          exact ⟨r, j + 1, nmX k ⟨h, l⟩ os, by go_num, HV3.out, ⟨E.1, by omega, E.2.1, E.2.2.2.2, E.2.2.1⟩, hbw3⟩
        case measure => simp [RowKit.intOf]; omega
theorem l4Exp_all (k : Int) : ∀ (n : Nat) (x : X), enodes x.l < n → ∀ (out : List ByteArray) (w : World) (vo v : Value), out.length + enodes x.l + 1 ≤ 10000000 → TV w 0 vo out → EV w 0 x.l v → Calls Tryz.prog 117 #[vo, xagg x v, .int .i64 k] w fun e w' => ∃ v', e = .returned v' ∧ TV w' 0 v' (nmX k x out) ∧ Below w.heap.size w w'
  | 0, _, h, _, _, _, _, _, _, _ => absurd h (by omega)
  | n + 1, x, h, out, w, vo, v, hN, ho, hv => l4Exp_step k x (fun l hl out w vo v hN ho hv => l4Exp_all k n l (by omega) out w vo v hN ho hv) out w vo v hN ho hv
theorem l4Exp_is (k : Int) (x : X) (out : List ByteArray) (w : World) (vo v : Value) (hN : out.length + enodes x.l + 1 ≤ 10000000) (ho : TV w 0 vo out) (hv : EV w 0 x.l v) :
    Calls Tryz.prog 117 #[vo, xagg x v, .int .i64 k] w fun e w' => ∃ v', e = .returned v' ∧ TV w' 0 v' (nmX k x out) ∧ Below w.heap.size w w' := l4Exp_all k _ x (Nat.lt_succ_self _) out w vo v hN ho hv
theorem l4Exps_step (k : Int) (F : SF)
    (ih : ∀ l : SF, snodes l < snodes F → ∀ (out : List ByteArray) (w : World) (vo v : Value), out.length + (sallE l).length ≤ 10000000 → snodes l ≤ 10000000 → TV w 0 vo out → SV w 0 l v → Calls Tryz.prog 66 #[vo, v, .int .i64 k] w fun e w' => ∃ v', e = .returned v' ∧ TV w' 0 v' (nmA k l out) ∧ Below w.heap.size w w')
    (out : List ByteArray) (w : World) (vo v : Value) (hN : out.length + (sallE F).length ≤ 10000000) (hM : snodes F ≤ 10000000) (ho : TV w 0 vo out) (hv : SV w 0 F v) :
    Calls Tryz.prog 66 #[vo, v, .int .i64 k] w fun e w' => ∃ v', e = .returned v' ∧ TV w' 0 v' (nmA k F out) ∧ Below w.heap.size w w' := by
  obtain ⟨b, o, ao, cap, rfl, hao, _, hin⟩ := hv
  have Hih := hid ih
  have hlenF := slen_le F
  clear ih
  go_enter Tryz.func66, Tryz.ntmps66
  go_wp2
  go_loopw [0, 7] (fun x i wr => ∃ (R : SF) (j : Nat) (os : List ByteArray), i = .int .i64 (j : Int) ∧ TV wr 0 x os ∧ Hid (j + slen R = slen F ∧ os.length + (sallE R).length ≤ out.length + (sallE F).length ∧ snodes R ≤ snodes F ∧ nmA k R os = nmA k F out ∧ SIn w 0 R b (o + j * 19)) ∧ Below w.heap.size w wr) (fun _ i _ => slen F - (RowKit.intOf i).toNat)
  case atStart => exact ⟨F, 0, out, rfl, ho, ⟨by omega, by omega, by omega, rfl, by simpa using hin⟩, Below.refl _ _⟩
  case round =>
    obtain ⟨R, j, os, rfl, hos, hr, hbw⟩ := hrel
    obtain ⟨e1, e2, e3, e4, e5⟩ := hr.out
    obtain ⟨oa, oc, rfl⟩ := hos.shape
    clear ho
    cases R with
    | nil =>
      have hk : ¬ (j : Int) < (slen F : Int) := by simp only [slen] at e1; omega
      have E := hid (show os = nmA k F out from e4)
      clear hr e4
      go_wp2
      go_ret
      exact ⟨_, rfl, by rw [← E.out]; exact hos, hbw⟩
    | node p q h l r =>
      have hlt : (j : Int) < (slen F : Int) := by simp only [slen] at e1; omega
      have hne : ¬ F = .nil := by intro e; subst e; simp only [slen] at e1; omega
      obtain rfl : ao = some ⟨b, o, Option.none⟩ := hao.resolve_right hne
      have hsc0 := (SIn_node.1 e5).1
      have hr0 := (SIn_node.1 e5).2
      simp only [snodes] at e3
      simp only [sallE, List.length_append, hall_len] at e2
      have Hl := hid (Hih.out l (by omega))
      have HOS := hid hos
      have Hsc := hid hsc0
      have He : Hid (j + 1 + slen r = slen F ∧ snodes r ≤ snodes F ∧ SIn w 0 r b (o + (j + 1) * 19) ∧ os.length + (enodes h.x1.l + enodes h.x2.l + enodes h.x3.l + enodes h.x4.l + 4 + ((sallE l).length + (sallE r).length)) ≤ 10000000 ∧ os.length + (enodes h.x1.l + enodes h.x2.l + enodes h.x3.l + enodes h.x4.l + 4 + ((sallE l).length + (sallE r).length)) ≤ out.length + (sallE F).length ∧ snodes l ≤ 10000000 ∧ nmA k r (nmA k l (nmX k h.x4 (nmX k h.x3 (nmX k h.x2 (nmX k h.x1 os))))) = nmA k F out) :=
        ⟨by simp only [slen] at e1; omega, by omega, by rw [show o + (j + 1) * 19 = o + j * 19 + 19 by omega]; exact hr0, by omega, by omega, by omega, e4⟩
      clear hr e1 e2 e3 e4 e5 hin hne hao hos hr0 hsc0
      obtain ⟨a10, a11, a12, u1, a13, hu1⟩ := (XC.later (Hsc.out.2.2.1) hbw)
      have HU1 := hid hu1
      clear hu1
      go_wp2_with fail
      refine (l4Exp_is k h.x1 os _ _ u1 (by have := He.out.2.2.2.1; omega) HOS.out HU1.out).mono ?_
      rintro e wz1 ⟨z1, rfl, hz1, hb1⟩
      have bw1 := hbw.trans (hb1.mono hbw.size)
      have ln1 := nmX_len k h.x1 os
      have HZ1 := hid hz1
      obtain ⟨za1, zc1, rfl⟩ := hz1.shape
      clear hz1 hb1 a10 a11 a12 a13 hbw
      obtain ⟨a20, a21, a22, u2, a23, hu2⟩ := (XC.later (Hsc.out.2.2.2.1) bw1)
      have HU2 := hid hu2
      clear hu2
      go_wp2_with fail
      refine (l4Exp_is k h.x2 (nmX k h.x1 os) _ _ u2 (by have := He.out.2.2.2.1; omega) HZ1.out HU2.out).mono ?_
      rintro e wz2 ⟨z2, rfl, hz2, hb2⟩
      have bw2 := bw1.trans (hb2.mono bw1.size)
      have ln2 := nmX_len k h.x2 (nmX k h.x1 os)
      have HZ2 := hid hz2
      obtain ⟨za2, zc2, rfl⟩ := hz2.shape
      clear hz2 hb2 a20 a21 a22 a23 bw1
      obtain ⟨a30, a31, a32, u3, a33, hu3⟩ := (XC.later (Hsc.out.2.2.2.2.1) bw2)
      have HU3 := hid hu3
      clear hu3
      go_wp2_with fail
      refine (l4Exp_is k h.x3 (nmX k h.x2 (nmX k h.x1 os)) _ _ u3 (by have := He.out.2.2.2.1; omega) HZ2.out HU3.out).mono ?_
      rintro e wz3 ⟨z3, rfl, hz3, hb3⟩
      have bw3 := bw2.trans (hb3.mono bw2.size)
      have ln3 := nmX_len k h.x3 (nmX k h.x2 (nmX k h.x1 os))
      have HZ3 := hid hz3
      obtain ⟨za3, zc3, rfl⟩ := hz3.shape
      clear hz3 hb3 a30 a31 a32 a33 bw2
      obtain ⟨a40, a41, a42, u4, a43, hu4⟩ := (XC.later (Hsc.out.2.2.2.2.2.1) bw3)
      have HU4 := hid hu4
      clear hu4
      go_wp2_with fail
      refine (l4Exp_is k h.x4 (nmX k h.x3 (nmX k h.x2 (nmX k h.x1 os))) _ _ u4 (by have := He.out.2.2.2.1; omega) HZ3.out HU4.out).mono ?_
      rintro e wz4 ⟨z4, rfl, hz4, hb4⟩
      have bw4 := bw3.trans (hb4.mono bw3.size)
      have ln4 := nmX_len k h.x4 (nmX k h.x3 (nmX k h.x2 (nmX k h.x1 os)))
      have HZ4 := hid hz4
      obtain ⟨za4, zc4, rfl⟩ := hz4.shape
      clear hz4 hb4 a40 a41 a42 a43 bw3
      obtain ⟨_, _, _, _, _, _, u5, c18, hu5⟩ := SC.later Hsc.out bw4
      have HU5 := hid hu5
      clear hu5
      go_wp2_with fail
      refine (Hl.out (nmX k h.x4 (nmX k h.x3 (nmX k h.x2 (nmX k h.x1 os)))) _ _ u5 (by have := He.out.2.2.2.1; omega) He.out.2.2.2.2.2.1 HZ4.out HU5.out).mono ?_
      rintro e w2 ⟨v2, rfl, hv2, hb2⟩
      have hbw2 := bw4.trans (hb2.mono bw4.size)
      have hl2 := nmA_lenE k l (nmX k h.x4 (nmX k h.x3 (nmX k h.x2 (nmX k h.x1 os))))
      have HV2 := hid hv2
      clear hv2 hb2 c18 bw4
      go_wp2
      go_roundw
      case rel =>
        have E := He.out
        exact ⟨r, j + 1, _, by go_num, HV2.out, ⟨E.1, by omega, E.2.1, E.2.2.2.2.2.2, E.2.2.1⟩, hbw2⟩
      case measure => simp [RowKit.intOf]; omega
theorem l4Exps_all (k : Int) : ∀ (n : Nat) (F : SF), snodes F < n → ∀ (out : List ByteArray) (w : World) (vo v : Value), out.length + (sallE F).length ≤ 10000000 → snodes F ≤ 10000000 → TV w 0 vo out → SV w 0 F v → Calls Tryz.prog 66 #[vo, v, .int .i64 k] w fun e w' => ∃ v', e = .returned v' ∧ TV w' 0 v' (nmA k F out) ∧ Below w.heap.size w w'
  | 0, _, h, _, _, _, _, _, _, _, _ => absurd h (by omega)
  | n + 1, F, h, out, w, vo, v, hN, hM, ho, hv => l4Exps_step k F (fun l hl out w vo v hN hM ho hv => l4Exps_all k n l (by omega) out w vo v hN hM ho hv) out w vo v hN hM ho hv
theorem spec_AskedE (F : SF) (hE : (sallE F).length ≤ 10000000) (hF : snodes F ≤ 10000000) (w : World) (v : Value) (hv : SV w 0 F v) : Calls Tryz.prog 68 #[v] w (SpecNames w (nmA 2 F [])) := by
  have C := hid (l4Exps_all 2 _ F (Nat.lt_succ_self _) [] (w.alloc (.cells #[] 9)) _ v (by simpa using hE) hF (empty_row w) (hv.later (aB _ _)))
  go_enter Tryz.func68, Tryz.ntmps68
  go_wp2_with fail
  refine C.out.mono ?_
  rintro e w1 ⟨v1, rfl, hv1, hb1⟩
  have B := hid (And.intro hv1 (below_alloc hb1))
  clear hv1 hb1
  go_wp2
  go_ret
  exact ⟨_, rfl, B.out.1, B.out.2⟩
end Go.Proofs.YtpinockfakndlaaGreat
