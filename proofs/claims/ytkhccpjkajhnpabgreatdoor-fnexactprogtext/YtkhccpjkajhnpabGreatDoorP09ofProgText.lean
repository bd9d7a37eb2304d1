/-
  Texts in one: TxtBody, NamePlain.
-/
import Derived.Test.YtkhccpjkajhnpabGreatDoorP07ofProgText
import Derived.Test.YtkhccpjkajhnpabGreatDoorTxtSpec
import Derived.Test.YtkhccpjkajhnpabGreatDoorP02ofProgText
import Derived.Test.YtkhccpjkajhnpabGreatDoorP01ofProgText
import Derived.Test.YtkhccpjkajhnpabGreatDoorP00ofProgText
import Derived.Sort.Walk0
import Derived.Sort.KeysCollected
/-
  The contract of the specification's l6Body: the text of a row of statements.
-/
namespace Go.Proofs.YtkhccpjkajhnpabGreatDoor
open Go.RowKit Go.Lib
set_option linter.unusedSimpArgs false
set_option linter.unusedVariables false

section
variable {w : World} {n : Nat} {h : SH} {v1 v2 v3 v4 v : Value}
theorem sx1 (r : w.rangeAt n 0 (scells h v1 v2 v3 v4 v)) : w.rangeAt n 2 (xcells h.x1 v1) := rangeAt_part (ds := [.int .i64 h.k, .string h.s]) (es := xcells h.x1 v1) r rfl
theorem sx2 (r : w.rangeAt n 0 (scells h v1 v2 v3 v4 v)) : w.rangeAt n 6 (xcells h.x2 v2) := rangeAt_part (ds := .int .i64 h.k :: .string h.s :: xcells h.x1 v1) (es := xcells h.x2 v2) r rfl
theorem sx3 (r : w.rangeAt n 0 (scells h v1 v2 v3 v4 v)) : w.rangeAt n 10 (xcells h.x3 v3) := rangeAt_part (ds := .int .i64 h.k :: .string h.s :: (xcells h.x1 v1 ++ xcells h.x2 v2)) (es := xcells h.x3 v3) r rfl
theorem sx4 (r : w.rangeAt n 0 (scells h v1 v2 v3 v4 v)) : w.rangeAt n 14 (xcells h.x4 v4) := rangeAt_part (ds := .int .i64 h.k :: .string h.s :: (xcells h.x1 v1 ++ (xcells h.x2 v2 ++ xcells h.x3 v3))) (es := xcells h.x4 v4) r rfl
theorem sx0 (r : w.rangeAt n 0 (scells h v1 v2 v3 v4 v)) : w.cell? ⟨n, 0, Option.none⟩ = some (.int .i64 h.k) ∧ w.cell? ⟨n, 1, Option.none⟩ = some (.string h.s) ∧ w.cell? ⟨n, 18, Option.none⟩ = some v := by
  have r0 := r 0 _ rfl; have r1 := r 1 _ rfl; have r2 := r 18 _ rfl
  simp only [Nat.zero_add] at r0 r1 r2
  exact ⟨r0, r1, r2⟩
end
/-- What a function that tells a row of statements says, so deep. -/
def TextC6 (f : Nat) (d : Nat) : Prop := ∀ (F : SF), toldS d F = true → snodes F ≤ 40 → ∀ (p : List UInt8), p.length + 2 * d ≤ 6 → ∀ (w : World) (v : Value), SV w 0 F v → Calls Tryz.prog f #[v, .string (str p)] w fun e w' => e = .returned (.string (str (bodyT F p))) ∧ Below w.heap.size w w'
set_option maxHeartbeats 4000000 in
set_option maxRecDepth 100000 in
theorem l6Body_step (d : Nat) (ih : ∀ d', d' < d → TextC6 13 d') : TextC6 13 d := by
  intro F hF hN p hp w v hv
  obtain ⟨b, o, ao, cap, rfl, hao, _, hin⟩ := hv
  have hlenF := slen_le F
  have hlen := bodyT_len F d p hF hp
  obtain ⟨A, HA⟩ : ∃ A, Hid (bodyT F p = A) := ⟨_, rfl⟩
  have hAl : A.length ≤ 200000 := by rw [← HA.out]; omega
  obtain ⟨Pd, HPd⟩ : ∃ Pd, Hid (str p = Pd) := ⟨_, rfl⟩
  have hPs : Pd.size ≤ 6 := by rw [← HPd.out, str_size]; omega
  have Hih := Lib.hid ih
  have HF := Lib.hid (And.intro hF (And.intro hN hp))
  rw [HA.out, HPd.out]
  have hF40 : (slen F : Int) ≤ 40 := by omega
  clear ih hF hN hp hlen
  go_enter Tryz.func13, Tryz.ntmps13
  go_wp2
  go_loopw [5, 6] (fun out i wr => ∃ (R : SF) (acc : List UInt8) (j : Nat), out = .string (str acc) ∧ i = .int .i64 (j : Int) ∧ Hid (j + slen R = slen F ∧ snodes R ≤ 40 ∧ toldS d R = true ∧ acc ++ bodyT R p = A ∧ SIn w 0 R b (o + j * 19)) ∧ Hid (Below w.heap.size w wr)) (fun _ i _ => slen F - (RowKit.intOf i).toNat)
  case atStart => exact ⟨F, [], 0, rfl, rfl, ⟨by omega, HF.out.2.1, HF.out.1, by rw [List.nil_append]; exact HA.out, by simpa using hin⟩, Below.refl _ _⟩
  case round =>
    obtain ⟨R, acc, j, rfl, rfl, hr, hbw⟩ := hrel
    obtain ⟨e1, e2, e3, e4, e5⟩ := hr.out
    have HP := Lib.hid HF.out.2.2
    clear HA hr HF
    cases R with
    | nil =>
      have hk : ¬ (j : Int) < (slen F : Int) := by simp only [slen] at e1; omega
      have E := Lib.hid (show acc = A by rw [← e4]; simp [bodyT])
      clear e1 e2 e3 e4 e5
      go_wp2
      go_ret
      exact ⟨ret_str (by rw [E.out]), hbw.out⟩
    | node n1 n2 h l r =>
      have hlt : (j : Int) < (slen F : Int) := by simp only [slen] at e1; omega
      have hj0 : (0 : Int) ≤ (j : Int) := by omega
      have hne1 : ¬ F = .nil := by intro e; rw [e] at e1; simp only [slen] at e1; omega
      obtain rfl : ao = some ⟨b, o, Option.none⟩ := hao.resolve_right hne1
      obtain ⟨v1, v2, v3, v4, u, hv0, hu0, hrg0⟩ := SC.range (SIn_node.1 e5).1
      have Hrg := Lib.hid (rangeAt_later hrg0 hbw.out)
      have o1 := hv0.e1.isOne; have o2 := hv0.e2.isOne; have o3 := hv0.e3.isOne; have o4 := hv0.e4.isOne; have o5 := hu0.isOne
      obtain ⟨q1, q2, q3⟩ := toldS_parts e3
      simp only [snodes] at e2
      obtain ⟨O, HO⟩ : ∃ O, Hid (str acc = O) := ⟨_, rfl⟩
      have hOs : O.size ≤ 200000 := by rw [← HO.out, str_size]; have := congrArg List.length e4; simp only [List.length_append] at this; omega
      have He : Hid (j + 1 + slen r = slen F ∧ snodes r ≤ 40 ∧ toldS d r = true ∧ (acc ++ stT p h (bodyT l (p ++ [32, 32]))) ++ bodyT r p = A ∧ SIn w 0 r b (o + (j + 1) * 19)) := ⟨by simp only [slen] at e1; omega, by omega, q2, by rw [← e4, bodyT_node, List.append_assoc], by have := (SIn_node.1 e5).2; rw [show o + (j + 1) * 19 = o + j * 19 + 19 by omega]; exact this⟩
      have H0 := Lib.hid (And.intro hv0 hu0)
      have hln : snodes l ≤ 40 := by omega
      rw [HO.out]
      clear e1 e2 e3 e4 e5 hne1 hv0 hu0 hrg0 hao hin q2 hlenF
      rcases head_cases q1 with ⟨hk, hs, hx⟩ | ⟨hk, hs, hx, hy⟩ | ⟨hk, hs, hx, hy⟩ | ⟨hk, hx⟩
      · have hd : (h.k == h.k) = true := by simp
        have l2 := expOk_len hx
        obtain ⟨X2, HX2⟩ : ∃ T, Hid (str (xT h.x2) = T) := ⟨_, rfl⟩
        have sX2 : X2.size ≤ 2400 := by rw [← HX2.out, str_size]; exact l2
        have CX2 : Hid (∀ W, Below w.heap.size w W → Calls Tryz.prog 33 #[.agg (xcells h.x2 v2).toArray] W fun e w' => e = .returned (.string X2) ∧ Below W.heap.size W w') := Lib.hid fun W hW => by rw [← HX2.out]; exact l6Exp_all 8 h.x2 (expOk_parts hx).1 (expOk_parts hx).2 W v2 (H0.out.1.e2.later hW)
        have E := Lib.hid (show (((((O ++ Pd) ++ h.s) ++ (⟨#[32, 61, 32]⟩ : ByteArray)) ++ X2) ++ (⟨#[59, 10]⟩ : ByteArray)) = str (acc ++ stT p h (bodyT l (p ++ [32, 32]))) by
          rw [← HO.out, ← HPd.out, ← HX2.out, stT_1 hk, ← str_of h.s]
          simp only [str_app, str_list, List.append_assoc, lit_str, show (⟨#[32, 61, 32]⟩ : ByteArray) = str [32, 61, 32] from rfl, show (⟨#[59, 10]⟩ : ByteArray) = str [59, 10] from rfl])
        clear q1 q3 l2 Hih hd
        go_wp2_with (first | (refine wpList_load_mid rfl 67 _ rfl b (o + j * 19) rfl _ _ Hrg.out Tryz.underlying67 rfl sizeIS ?_) | (refine store_abs rfl 67 _ _ rfl wr.heap.size 0 (scells h v1 v2 v3 v4 u).toArray rfl rfl (newthere wr _) sizeIS (oneS h v1 v2 v3 v4 _ o1 o2 o3 o4 o5) ?_; intro W hW; have HW := Lib.hid (newblkS h v1 v2 v3 v4 _ hW); clear hW; have ck := (sx0 HW.out.1).1; rw [hk] at ck))
        have bd : Below W.heap.size W W.drew := (Below.refl _ W).drew
        have BW := Lib.hid (hbw.out.trans (HW.out.2.mono hbw.out.size))
        refine wp_region_held_drew (S := Below W.heap.size W) (by kernel_rfl) bd (fun hHeld => ?_)
        refine wpAnyH_take (i := 0) (v := .string O) rfl (by kernel_rfl) (by kernel_rfl) (by kernel_rfl) (fun _ _ _ h => h) (Or.inl ⟨by rfl, ?yk10⟩) hHeld ?_
        case yk10 => intro w hSw; go_simp
        simp only [Act.put, List.getElem_toArray, List.getElem_cons_succ, List.getElem_cons_zero, List.setIfInBounds_toArray, List.set_cons_zero, List.set_cons_succ]
        refine wpAnyH_take (i := 1) (v := .string Pd) rfl (by kernel_rfl) (by kernel_rfl) (by kernel_rfl) (fun _ _ _ h => h) (Or.inl ⟨by rfl, ?yk11⟩) hHeld ?_
        case yk11 => intro w hSw; go_simp
        simp only [Act.put, List.getElem_toArray, List.getElem_cons_succ, List.getElem_cons_zero, List.setIfInBounds_toArray, List.set_cons_zero, List.set_cons_succ]
        refine wpAnyH_take (i := 2) (v := .string (O ++ Pd)) rfl (by kernel_rfl) (by kernel_rfl) (by kernel_rfl) (fun _ _ _ h => h) (Or.inl ⟨by rfl, ?yk12⟩) hHeld ?_
        case yk12 => intro w hSw; first | (go_simp; done) | (go_simp; rw [if_neg (by omega)]; done) | (go_simp; rw [if_neg (by simp only [ByteArray.size_append]; omega)]; done) | (go_simp; omega) | (go_simp; simp only [ByteArray.size_append]; omega)
        simp only [Act.put, List.getElem_toArray, List.getElem_cons_succ, List.getElem_cons_zero, List.setIfInBounds_toArray, List.set_cons_zero, List.set_cons_succ]
        refine wpAnyH_take (i := 3) (v := .pointer (some ⟨wr.heap.size, 1, Option.none⟩)) rfl (by kernel_rfl) (by kernel_rfl) (by kernel_rfl) (fun _ _ _ h => h) (Or.inl ⟨by rfl, ?yk13⟩) hHeld ?_
        case yk13 => intro w hSw; go_simp
        simp only [Act.put, List.getElem_toArray, List.getElem_cons_succ, List.getElem_cons_zero, List.setIfInBounds_toArray, List.set_cons_zero, List.set_cons_succ]
        refine wpAnyH_take (i := 4) (v := .string h.s) rfl (by kernel_rfl) (by kernel_rfl) (by kernel_rfl) (fun _ _ _ h => h) (Or.inl ⟨by rfl, ?yk14⟩) hHeld ?_
        case yk14 => intro w hSw; have q := (sx0 (rangeAt_later HW.out.1 hSw)).2.1; go_simp
        simp only [Act.put, List.getElem_toArray, List.getElem_cons_succ, List.getElem_cons_zero, List.setIfInBounds_toArray, List.set_cons_zero, List.set_cons_succ]
        refine wpAnyH_take (i := 5) (v := .string ((O ++ Pd) ++ h.s)) rfl (by kernel_rfl) (by kernel_rfl) (by kernel_rfl) (fun _ _ _ h => h) (Or.inl ⟨by rfl, ?yk15⟩) hHeld ?_
        case yk15 => intro w hSw; first | (go_simp; done) | (go_simp; rw [if_neg (by omega)]; done) | (go_simp; rw [if_neg (by simp only [ByteArray.size_append]; omega)]; done) | (go_simp; omega) | (go_simp; simp only [ByteArray.size_append]; omega)
        simp only [Act.put, List.getElem_toArray, List.getElem_cons_succ, List.getElem_cons_zero, List.setIfInBounds_toArray, List.set_cons_zero, List.set_cons_succ]
        refine wpAnyH_take (i := 6) (v := .string (((O ++ Pd) ++ h.s) ++ (⟨#[32, 61, 32]⟩ : ByteArray))) rfl (by kernel_rfl) (by kernel_rfl) (by kernel_rfl) (fun _ _ _ h => h) (Or.inl ⟨by rfl, ?yk16⟩) hHeld ?_
        case yk16 => intro w hSw; first | (go_simp; done) | (go_simp; rw [if_neg (by omega)]; done) | (go_simp; rw [if_neg (by simp only [ByteArray.size_append]; omega)]; done) | (go_simp; omega) | (go_simp; simp only [ByteArray.size_append]; omega)
        simp only [Act.put, List.getElem_toArray, List.getElem_cons_succ, List.getElem_cons_zero, List.setIfInBounds_toArray, List.set_cons_zero, List.set_cons_succ]
        refine wpAnyH_take (i := 7) (v := .pointer (some ⟨wr.heap.size, 6, Option.none⟩)) rfl (by kernel_rfl) (by kernel_rfl) (by kernel_rfl) (fun _ _ _ h => h) (Or.inl ⟨by rfl, ?yk17⟩) hHeld ?_
        case yk17 => intro w hSw; go_simp
        simp only [Act.put, List.getElem_toArray, List.getElem_cons_succ, List.getElem_cons_zero, List.setIfInBounds_toArray, List.set_cons_zero, List.set_cons_succ]
        refine wpAnyH_take (i := 8) (v := .agg (xcells h.x2 v2).toArray) rfl (by kernel_rfl) (by kernel_rfl) (by kernel_rfl) (fun _ _ _ h => h) (yieldsIf_load_mid (by rfl) 65 _ rfl (wr.heap.size) (6) rfl (xcells h.x2 v2) _ (fun w h => sx2 (rangeAt_later HW.out.1 h)) Tryz.underlying65 rfl sizeIE2) hHeld ?_
        simp only [Act.put, List.getElem_toArray, List.getElem_cons_succ, List.getElem_cons_zero, List.setIfInBounds_toArray, List.set_cons_zero, List.set_cons_succ]
        refine wpAnyH_ready (rs := [9]) (by kernel_rfl) (by simp) ?_
        refine AllReadyH.cons rfl (fun K hK => ?_) AllReadyH.nil
        rw [if_pos (by rfl)]
        simp only [List.getElem_toArray, List.getElem_cons_succ, List.getElem_cons_zero]
        go_wp2_with fail
        refine (CX2.out _ (BW.out.trans (hHeld.mono BW.out.size))).mono ?_
        rintro e w1 ⟨rfl, hb1⟩
        go_wp2_with fail
        refine hK.out _ _ (hHeld.trans (hb1.mono hHeld.size)) (fun hHeld => ?_)
        try simp only [Act.put, List.getElem_toArray, List.getElem_cons_succ, List.getElem_cons_zero, List.setIfInBounds_toArray, List.set_cons_zero, List.set_cons_succ]
        refine wpAnyH_take (i := 10) (v := .string ((((O ++ Pd) ++ h.s) ++ (⟨#[32, 61, 32]⟩ : ByteArray)) ++ X2)) rfl (by kernel_rfl) (by kernel_rfl) (by kernel_rfl) (fun _ _ _ h => h) (Or.inl ⟨by rfl, ?yk110⟩) hHeld ?_
        case yk110 => intro w hSw; first | (go_simp; done) | (go_simp; rw [if_neg (by omega)]; done) | (go_simp; rw [if_neg (by simp only [ByteArray.size_append]; omega)]; done) | (go_simp; omega) | (go_simp; simp only [ByteArray.size_append]; omega)
        simp only [Act.put, List.getElem_toArray, List.getElem_cons_succ, List.getElem_cons_zero, List.setIfInBounds_toArray, List.set_cons_zero, List.set_cons_succ]
        refine wpAnyH_take (i := 11) (v := .string (((((O ++ Pd) ++ h.s) ++ (⟨#[32, 61, 32]⟩ : ByteArray)) ++ X2) ++ (⟨#[59, 10]⟩ : ByteArray))) rfl (by kernel_rfl) (by kernel_rfl) (by kernel_rfl) (fun _ _ _ h => h) (Or.inl ⟨by rfl, ?yk111⟩) hHeld ?_
        case yk111 => intro w hSw; first | (go_simp; done) | (go_simp; rw [if_neg (by omega)]; done) | (go_simp; rw [if_neg (by simp only [ByteArray.size_append]; omega)]; done) | (go_simp; omega) | (go_simp; simp only [ByteArray.size_append]; omega)
        simp only [Act.put, List.getElem_toArray, List.getElem_cons_succ, List.getElem_cons_zero, List.setIfInBounds_toArray, List.set_cons_zero, List.set_cons_succ]
        refine wpAnyH_take (i := 12) (v := .string (((((O ++ Pd) ++ h.s) ++ (⟨#[32, 61, 32]⟩ : ByteArray)) ++ X2) ++ (⟨#[59, 10]⟩ : ByteArray))) rfl (by kernel_rfl) (by kernel_rfl) (by kernel_rfl) (fun _ _ _ h => h) (Or.inl ⟨by rfl, ?yk112⟩) hHeld ?_
        case yk112 => intro w hSw; go_simp
        simp only [Act.put, List.getElem_toArray, List.getElem_cons_succ, List.getElem_cons_zero, List.setIfInBounds_toArray, List.set_cons_zero, List.set_cons_succ]
        refine wpAnyH_done (by kernel_rfl) ?_ _
        have BB := Lib.hid (BW.out.trans (hHeld.mono BW.out.size))
        clear hHeld bd ck
        rw [E.out]
        clear E
        go_wp2
        go_roundw
        case rel => exact ⟨r, acc ++ stT p h (bodyT l (p ++ [32, 32])), j + 1, rfl, by go_num, He, BB⟩
        case measure => simp [RowKit.intOf]; omega
      · have hd : (h.k == h.k) = true := by simp
        have l1 := expOk_len hx
        obtain ⟨X1, HX1⟩ : ∃ T, Hid (str (xT h.x1) = T) := ⟨_, rfl⟩
        have sX1 : X1.size ≤ 2400 := by rw [← HX1.out, str_size]; exact l1
        have CX1 : Hid (∀ W, Below w.heap.size w W → Calls Tryz.prog 33 #[.agg (xcells h.x1 v1).toArray] W fun e w' => e = .returned (.string X1) ∧ Below W.heap.size W w') := Lib.hid fun W hW => by rw [← HX1.out]; exact l6Exp_all 8 h.x1 (expOk_parts hx).1 (expOk_parts hx).2 W v1 (H0.out.1.e1.later hW)
        have l2 := expOk_len hy
        obtain ⟨X2, HX2⟩ : ∃ T, Hid (str (xT h.x2) = T) := ⟨_, rfl⟩
        have sX2 : X2.size ≤ 2400 := by rw [← HX2.out, str_size]; exact l2
        have CX2 : Hid (∀ W, Below w.heap.size w W → Calls Tryz.prog 33 #[.agg (xcells h.x2 v2).toArray] W fun e w' => e = .returned (.string X2) ∧ Below W.heap.size W w') := Lib.hid fun W hW => by rw [← HX2.out]; exact l6Exp_all 8 h.x2 (expOk_parts hy).1 (expOk_parts hy).2 W v2 (H0.out.1.e2.later hW)
        have E := Lib.hid (show (((((((O ++ Pd) ++ h.s) ++ (⟨#[91]⟩ : ByteArray)) ++ X1) ++ (⟨#[93, 32, 61, 32]⟩ : ByteArray)) ++ X2) ++ (⟨#[59, 10]⟩ : ByteArray)) = str (acc ++ stT p h (bodyT l (p ++ [32, 32]))) by
          rw [← HO.out, ← HPd.out, ← HX1.out, ← HX2.out, stT_2 hk, ← str_of h.s]
          simp only [str_app, str_list, List.append_assoc, lit_str, show (⟨#[91]⟩ : ByteArray) = str [91] from rfl, show (⟨#[93, 32, 61, 32]⟩ : ByteArray) = str [93, 32, 61, 32] from rfl, show (⟨#[59, 10]⟩ : ByteArray) = str [59, 10] from rfl])
        clear q1 q3 l1 l2 Hih hd
        go_wp2_with (first | (refine wpList_load_mid rfl 67 _ rfl b (o + j * 19) rfl _ _ Hrg.out Tryz.underlying67 rfl sizeIS ?_) | (refine store_abs rfl 67 _ _ rfl wr.heap.size 0 (scells h v1 v2 v3 v4 u).toArray rfl rfl (newthere wr _) sizeIS (oneS h v1 v2 v3 v4 _ o1 o2 o3 o4 o5) ?_; intro W hW; have HW := Lib.hid (newblkS h v1 v2 v3 v4 _ hW); clear hW; have ck := (sx0 HW.out.1).1; rw [hk] at ck))
        have bd : Below W.heap.size W W.drew := (Below.refl _ W).drew
        have BW := Lib.hid (hbw.out.trans (HW.out.2.mono hbw.out.size))
        refine wp_region_held_drew (S := Below W.heap.size W) (by kernel_rfl) bd (fun hHeld => ?_)
        refine wpAnyH_take (i := 0) (v := .string O) rfl (by kernel_rfl) (by kernel_rfl) (by kernel_rfl) (fun _ _ _ h => h) (Or.inl ⟨by rfl, ?yk20⟩) hHeld ?_
        case yk20 => intro w hSw; go_simp
        simp only [Act.put, List.getElem_toArray, List.getElem_cons_succ, List.getElem_cons_zero, List.setIfInBounds_toArray, List.set_cons_zero, List.set_cons_succ]
        refine wpAnyH_take (i := 1) (v := .string Pd) rfl (by kernel_rfl) (by kernel_rfl) (by kernel_rfl) (fun _ _ _ h => h) (Or.inl ⟨by rfl, ?yk21⟩) hHeld ?_
        case yk21 => intro w hSw; go_simp
        simp only [Act.put, List.getElem_toArray, List.getElem_cons_succ, List.getElem_cons_zero, List.setIfInBounds_toArray, List.set_cons_zero, List.set_cons_succ]
        refine wpAnyH_take (i := 2) (v := .string (O ++ Pd)) rfl (by kernel_rfl) (by kernel_rfl) (by kernel_rfl) (fun _ _ _ h => h) (Or.inl ⟨by rfl, ?yk22⟩) hHeld ?_
        case yk22 => intro w hSw; first | (go_simp; done) | (go_simp; rw [if_neg (by omega)]; done) | (go_simp; rw [if_neg (by simp only [ByteArray.size_append]; omega)]; done) | (go_simp; omega) | (go_simp; simp only [ByteArray.size_append]; omega)
        simp only [Act.put, List.getElem_toArray, List.getElem_cons_succ, List.getElem_cons_zero, List.setIfInBounds_toArray, List.set_cons_zero, List.set_cons_succ]
        refine wpAnyH_take (i := 3) (v := .pointer (some ⟨wr.heap.size, 1, Option.none⟩)) rfl (by kernel_rfl) (by kernel_rfl) (by kernel_rfl) (fun _ _ _ h => h) (Or.inl ⟨by rfl, ?yk23⟩) hHeld ?_
        case yk23 => intro w hSw; go_simp
        simp only [Act.put, List.getElem_toArray, List.getElem_cons_succ, List.getElem_cons_zero, List.setIfInBounds_toArray, List.set_cons_zero, List.set_cons_succ]
        refine wpAnyH_take (i := 4) (v := .string h.s) rfl (by kernel_rfl) (by kernel_rfl) (by kernel_rfl) (fun _ _ _ h => h) (Or.inl ⟨by rfl, ?yk24⟩) hHeld ?_
        case yk24 => intro w hSw; have q := (sx0 (rangeAt_later HW.out.1 hSw)).2.1; go_simp
        simp only [Act.put, List.getElem_toArray, List.getElem_cons_succ, List.getElem_cons_zero, List.setIfInBounds_toArray, List.set_cons_zero, List.set_cons_succ]
        refine wpAnyH_take (i := 5) (v := .string ((O ++ Pd) ++ h.s)) rfl (by kernel_rfl) (by kernel_rfl) (by kernel_rfl) (fun _ _ _ h => h) (Or.inl ⟨by rfl, ?yk25⟩) hHeld ?_
        case yk25 => intro w hSw; first | (go_simp; done) | (go_simp; rw [if_neg (by omega)]; done) | (go_simp; rw [if_neg (by simp only [ByteArray.size_append]; omega)]; done) | (go_simp; omega) | (go_simp; simp only [ByteArray.size_append]; omega)
        simp only [Act.put, List.getElem_toArray, List.getElem_cons_succ, List.getElem_cons_zero, List.setIfInBounds_toArray, List.set_cons_zero, List.set_cons_succ]
        refine wpAnyH_take (i := 6) (v := .string (((O ++ Pd) ++ h.s) ++ (⟨#[91]⟩ : ByteArray))) rfl (by kernel_rfl) (by kernel_rfl) (by kernel_rfl) (fun _ _ _ h => h) (Or.inl ⟨by rfl, ?yk26⟩) hHeld ?_
        case yk26 => intro w hSw; first | (go_simp; done) | (go_simp; rw [if_neg (by omega)]; done) | (go_simp; rw [if_neg (by simp only [ByteArray.size_append]; omega)]; done) | (go_simp; omega) | (go_simp; simp only [ByteArray.size_append]; omega)
        simp only [Act.put, List.getElem_toArray, List.getElem_cons_succ, List.getElem_cons_zero, List.setIfInBounds_toArray, List.set_cons_zero, List.set_cons_succ]
        refine wpAnyH_take (i := 7) (v := .pointer (some ⟨wr.heap.size, 2, Option.none⟩)) rfl (by kernel_rfl) (by kernel_rfl) (by kernel_rfl) (fun _ _ _ h => h) (Or.inl ⟨by rfl, ?yk27⟩) hHeld ?_
        case yk27 => intro w hSw; go_simp
        simp only [Act.put, List.getElem_toArray, List.getElem_cons_succ, List.getElem_cons_zero, List.setIfInBounds_toArray, List.set_cons_zero, List.set_cons_succ]
        refine wpAnyH_take (i := 8) (v := .agg (xcells h.x1 v1).toArray) rfl (by kernel_rfl) (by kernel_rfl) (by kernel_rfl) (fun _ _ _ h => h) (yieldsIf_load_mid (by rfl) 65 _ rfl (wr.heap.size) (2) rfl (xcells h.x1 v1) _ (fun w h => sx1 (rangeAt_later HW.out.1 h)) Tryz.underlying65 rfl sizeIE2) hHeld ?_
        simp only [Act.put, List.getElem_toArray, List.getElem_cons_succ, List.getElem_cons_zero, List.setIfInBounds_toArray, List.set_cons_zero, List.set_cons_succ]
        refine wpAnyH_take (i := 12) (v := .pointer (some ⟨wr.heap.size, 6, Option.none⟩)) rfl (by kernel_rfl) (by kernel_rfl) (by kernel_rfl) (fun _ _ _ h => h) (Or.inl ⟨by rfl, ?yk212⟩) hHeld ?_
        case yk212 => intro w hSw; go_simp
        simp only [Act.put, List.getElem_toArray, List.getElem_cons_succ, List.getElem_cons_zero, List.setIfInBounds_toArray, List.set_cons_zero, List.set_cons_succ]
        refine wpAnyH_take (i := 13) (v := .agg (xcells h.x2 v2).toArray) rfl (by kernel_rfl) (by kernel_rfl) (by kernel_rfl) (fun _ _ _ h => h) (yieldsIf_load_mid (by rfl) 65 _ rfl (wr.heap.size) (6) rfl (xcells h.x2 v2) _ (fun w h => sx2 (rangeAt_later HW.out.1 h)) Tryz.underlying65 rfl sizeIE2) hHeld ?_
        simp only [Act.put, List.getElem_toArray, List.getElem_cons_succ, List.getElem_cons_zero, List.setIfInBounds_toArray, List.set_cons_zero, List.set_cons_succ]
        refine wpAnyH_ready (rs := [9]) (by kernel_rfl) (by simp) ?_
        refine AllReadyH.cons rfl (fun K hK => ?_) AllReadyH.nil
        rw [if_pos (by rfl)]
        simp only [List.getElem_toArray, List.getElem_cons_succ, List.getElem_cons_zero]
        go_wp2_with fail
        refine (CX1.out _ (BW.out.trans (hHeld.mono BW.out.size))).mono ?_
        rintro e w1 ⟨rfl, hb1⟩
        go_wp2_with fail
        refine hK.out _ _ (hHeld.trans (hb1.mono hHeld.size)) (fun hHeld => ?_)
        try simp only [Act.put, List.getElem_toArray, List.getElem_cons_succ, List.getElem_cons_zero, List.setIfInBounds_toArray, List.set_cons_zero, List.set_cons_succ]
        refine wpAnyH_take (i := 10) (v := .string ((((O ++ Pd) ++ h.s) ++ (⟨#[91]⟩ : ByteArray)) ++ X1)) rfl (by kernel_rfl) (by kernel_rfl) (by kernel_rfl) (fun _ _ _ h => h) (Or.inl ⟨by rfl, ?yk210⟩) hHeld ?_
        case yk210 => intro w hSw; first | (go_simp; done) | (go_simp; rw [if_neg (by omega)]; done) | (go_simp; rw [if_neg (by simp only [ByteArray.size_append]; omega)]; done) | (go_simp; omega) | (go_simp; simp only [ByteArray.size_append]; omega)
        simp only [Act.put, List.getElem_toArray, List.getElem_cons_succ, List.getElem_cons_zero, List.setIfInBounds_toArray, List.set_cons_zero, List.set_cons_succ]
        refine wpAnyH_take (i := 11) (v := .string (((((O ++ Pd) ++ h.s) ++ (⟨#[91]⟩ : ByteArray)) ++ X1) ++ (⟨#[93, 32, 61, 32]⟩ : ByteArray))) rfl (by kernel_rfl) (by kernel_rfl) (by kernel_rfl) (fun _ _ _ h => h) (Or.inl ⟨by rfl, ?yk211⟩) hHeld ?_
        case yk211 => intro w hSw; first | (go_simp; done) | (go_simp; rw [if_neg (by omega)]; done) | (go_simp; rw [if_neg (by simp only [ByteArray.size_append]; omega)]; done) | (go_simp; omega) | (go_simp; simp only [ByteArray.size_append]; omega)
        simp only [Act.put, List.getElem_toArray, List.getElem_cons_succ, List.getElem_cons_zero, List.setIfInBounds_toArray, List.set_cons_zero, List.set_cons_succ]
        refine wpAnyH_ready (rs := [14]) (by kernel_rfl) (by simp) ?_
        refine AllReadyH.cons rfl (fun K hK => ?_) AllReadyH.nil
        rw [if_pos (by rfl)]
        simp only [List.getElem_toArray, List.getElem_cons_succ, List.getElem_cons_zero]
        go_wp2_with fail
        refine (CX2.out _ (BW.out.trans (hHeld.mono BW.out.size))).mono ?_
        rintro e w2 ⟨rfl, hb2⟩
        go_wp2_with fail
        refine hK.out _ _ (hHeld.trans (hb2.mono hHeld.size)) (fun hHeld => ?_)
        try simp only [Act.put, List.getElem_toArray, List.getElem_cons_succ, List.getElem_cons_zero, List.setIfInBounds_toArray, List.set_cons_zero, List.set_cons_succ]
        refine wpAnyH_take (i := 15) (v := .string ((((((O ++ Pd) ++ h.s) ++ (⟨#[91]⟩ : ByteArray)) ++ X1) ++ (⟨#[93, 32, 61, 32]⟩ : ByteArray)) ++ X2)) rfl (by kernel_rfl) (by kernel_rfl) (by kernel_rfl) (fun _ _ _ h => h) (Or.inl ⟨by rfl, ?yk215⟩) hHeld ?_
        case yk215 => intro w hSw; first | (go_simp; done) | (go_simp; rw [if_neg (by omega)]; done) | (go_simp; rw [if_neg (by simp only [ByteArray.size_append]; omega)]; done) | (go_simp; omega) | (go_simp; simp only [ByteArray.size_append]; omega)
        simp only [Act.put, List.getElem_toArray, List.getElem_cons_succ, List.getElem_cons_zero, List.setIfInBounds_toArray, List.set_cons_zero, List.set_cons_succ]
        refine wpAnyH_take (i := 16) (v := .string (((((((O ++ Pd) ++ h.s) ++ (⟨#[91]⟩ : ByteArray)) ++ X1) ++ (⟨#[93, 32, 61, 32]⟩ : ByteArray)) ++ X2) ++ (⟨#[59, 10]⟩ : ByteArray))) rfl (by kernel_rfl) (by kernel_rfl) (by kernel_rfl) (fun _ _ _ h => h) (Or.inl ⟨by rfl, ?yk216⟩) hHeld ?_
        case yk216 => intro w hSw; first | (go_simp; done) | (go_simp; rw [if_neg (by omega)]; done) | (go_simp; rw [if_neg (by simp only [ByteArray.size_append]; omega)]; done) | (go_simp; omega) | (go_simp; simp only [ByteArray.size_append]; omega)
        simp only [Act.put, List.getElem_toArray, List.getElem_cons_succ, List.getElem_cons_zero, List.setIfInBounds_toArray, List.set_cons_zero, List.set_cons_succ]
        refine wpAnyH_take (i := 17) (v := .string (((((((O ++ Pd) ++ h.s) ++ (⟨#[91]⟩ : ByteArray)) ++ X1) ++ (⟨#[93, 32, 61, 32]⟩ : ByteArray)) ++ X2) ++ (⟨#[59, 10]⟩ : ByteArray))) rfl (by kernel_rfl) (by kernel_rfl) (by kernel_rfl) (fun _ _ _ h => h) (Or.inl ⟨by rfl, ?yk217⟩) hHeld ?_
        case yk217 => intro w hSw; go_simp
        simp only [Act.put, List.getElem_toArray, List.getElem_cons_succ, List.getElem_cons_zero, List.setIfInBounds_toArray, List.set_cons_zero, List.set_cons_succ]
        refine wpAnyH_done (by kernel_rfl) ?_ _
        have BB := Lib.hid (BW.out.trans (hHeld.mono BW.out.size))
        clear hHeld bd ck
        rw [E.out]
        clear E
        go_wp2
        go_roundw
        case rel => exact ⟨r, acc ++ stT p h (bodyT l (p ++ [32, 32])), j + 1, rfl, by go_num, He, BB⟩
        case measure => simp [RowKit.intOf]; omega
      · have hd : (h.k == h.k) = true := by simp
        have l3 := expOk_len hx
        obtain ⟨X3, HX3⟩ : ∃ T, Hid (str (xT h.x3) = T) := ⟨_, rfl⟩
        have sX3 : X3.size ≤ 2400 := by rw [← HX3.out, str_size]; exact l3
        have CX3 : Hid (∀ W, Below w.heap.size w W → Calls Tryz.prog 33 #[.agg (xcells h.x3 v3).toArray] W fun e w' => e = .returned (.string X3) ∧ Below W.heap.size W w') := Lib.hid fun W hW => by rw [← HX3.out]; exact l6Exp_all 8 h.x3 (expOk_parts hx).1 (expOk_parts hx).2 W v3 (H0.out.1.e3.later hW)
        have l4 := expOk_len hy
        obtain ⟨X4, HX4⟩ : ∃ T, Hid (str (xT h.x4) = T) := ⟨_, rfl⟩
        have sX4 : X4.size ≤ 2400 := by rw [← HX4.out, str_size]; exact l4
        have CX4 : Hid (∀ W, Below w.heap.size w W → Calls Tryz.prog 33 #[.agg (xcells h.x4 v4).toArray] W fun e w' => e = .returned (.string X4) ∧ Below W.heap.size W w') := Lib.hid fun W hW => by rw [← HX4.out]; exact l6Exp_all 8 h.x4 (expOk_parts hy).1 (expOk_parts hy).2 W v4 (H0.out.1.e4.later hW)
        rcases q3 with ⟨_, qd, ql⟩ | ⟨q3, _⟩
        case inr => exact absurd hk q3
        obtain ⟨T, HT⟩ : ∃ T, Hid (str (bodyT l (p ++ [32, 32])) = T) := ⟨_, Lib.hid rfl⟩
        have hpl : (p ++ [32, 32]).length + 2 * (d - 1) ≤ 6 := by have := HP.out; simp only [List.length_append, List.length_cons, List.length_nil]; omega
        have lB := bodyT_len l (d - 1) _ ql hpl
        have sT : T.size ≤ 200000 := by rw [← HT.out, str_size]; omega
        have CT : Hid (∀ W, Below w.heap.size w W → Calls Tryz.prog 13 #[u, .string (Pd ++ (⟨#[32, 32]⟩ : ByteArray))] W fun e w' => e = .returned (.string T) ∧ Below W.heap.size W w') := Lib.hid fun W hW => by rw [← HT.out, ← HPd.out, show (⟨#[32, 32]⟩ : ByteArray) = str [32, 32] from rfl, str_app]; exact Hih.out (d - 1) (by omega) l ql hln _ hpl W u (H0.out.2.later hW)
        clear ql lB hpl
        have E := Lib.hid (show (((((((((((O ++ Pd) ++ (⟨#[102, 111, 114, 32]⟩ : ByteArray)) ++ h.s) ++ (⟨#[32, 61, 32]⟩ : ByteArray)) ++ X3) ++ (⟨#[32, 116, 111, 32]⟩ : ByteArray)) ++ X4) ++ (⟨#[32, 123, 10]⟩ : ByteArray)) ++ T) ++ Pd) ++ (⟨#[125, 10]⟩ : ByteArray)) = str (acc ++ stT p h (bodyT l (p ++ [32, 32]))) by
          rw [← HO.out, ← HPd.out, ← HX3.out, ← HX4.out, ← HT.out, stT_3 hk, ← str_of h.s]
          simp only [str_app, str_list, List.append_assoc, lit_str, show (⟨#[102, 111, 114, 32]⟩ : ByteArray) = str [102, 111, 114, 32] from rfl, show (⟨#[32, 61, 32]⟩ : ByteArray) = str [32, 61, 32] from rfl, show (⟨#[32, 116, 111, 32]⟩ : ByteArray) = str [32, 116, 111, 32] from rfl, show (⟨#[32, 123, 10]⟩ : ByteArray) = str [32, 123, 10] from rfl, show (⟨#[125, 10]⟩ : ByteArray) = str [125, 10] from rfl])
        clear q1 l3 l4 Hih hd
        go_wp2_with (first | (refine wpList_load_mid rfl 67 _ rfl b (o + j * 19) rfl _ _ Hrg.out Tryz.underlying67 rfl sizeIS ?_) | (refine store_abs rfl 67 _ _ rfl wr.heap.size 0 (scells h v1 v2 v3 v4 u).toArray rfl rfl (newthere wr _) sizeIS (oneS h v1 v2 v3 v4 _ o1 o2 o3 o4 o5) ?_; intro W hW; have HW := Lib.hid (newblkS h v1 v2 v3 v4 _ hW); clear hW; have ck := (sx0 HW.out.1).1; rw [hk] at ck))
        have bd : Below W.heap.size W W.drew := (Below.refl _ W).drew
        have BW := Lib.hid (hbw.out.trans (HW.out.2.mono hbw.out.size))
        refine wp_region_held_drew (S := Below W.heap.size W) (by kernel_rfl) bd (fun hHeld => ?_)
        refine wpAnyH_take (i := 0) (v := .string O) rfl (by kernel_rfl) (by kernel_rfl) (by kernel_rfl) (fun _ _ _ h => h) (Or.inl ⟨by rfl, ?yk30⟩) hHeld ?_
        case yk30 => intro w hSw; go_simp
        simp only [Act.put, List.getElem_toArray, List.getElem_cons_succ, List.getElem_cons_zero, List.setIfInBounds_toArray, List.set_cons_zero, List.set_cons_succ]
        refine wpAnyH_take (i := 1) (v := .string Pd) rfl (by kernel_rfl) (by kernel_rfl) (by kernel_rfl) (fun _ _ _ h => h) (Or.inl ⟨by rfl, ?yk31⟩) hHeld ?_
        case yk31 => intro w hSw; go_simp
        simp only [Act.put, List.getElem_toArray, List.getElem_cons_succ, List.getElem_cons_zero, List.setIfInBounds_toArray, List.set_cons_zero, List.set_cons_succ]
        refine wpAnyH_take (i := 2) (v := .string (O ++ Pd)) rfl (by kernel_rfl) (by kernel_rfl) (by kernel_rfl) (fun _ _ _ h => h) (Or.inl ⟨by rfl, ?yk32⟩) hHeld ?_
        case yk32 => intro w hSw; first | (go_simp; done) | (go_simp; rw [if_neg (by omega)]; done) | (go_simp; rw [if_neg (by simp only [ByteArray.size_append]; omega)]; done) | (go_simp; omega) | (go_simp; simp only [ByteArray.size_append]; omega)
        simp only [Act.put, List.getElem_toArray, List.getElem_cons_succ, List.getElem_cons_zero, List.setIfInBounds_toArray, List.set_cons_zero, List.set_cons_succ]
        refine wpAnyH_take (i := 3) (v := .string ((O ++ Pd) ++ (⟨#[102, 111, 114, 32]⟩ : ByteArray))) rfl (by kernel_rfl) (by kernel_rfl) (by kernel_rfl) (fun _ _ _ h => h) (Or.inl ⟨by rfl, ?yk33⟩) hHeld ?_
        case yk33 => intro w hSw; first | (go_simp; done) | (go_simp; rw [if_neg (by omega)]; done) | (go_simp; rw [if_neg (by simp only [ByteArray.size_append]; omega)]; done) | (go_simp; omega) | (go_simp; simp only [ByteArray.size_append]; omega)
        simp only [Act.put, List.getElem_toArray, List.getElem_cons_succ, List.getElem_cons_zero, List.setIfInBounds_toArray, List.set_cons_zero, List.set_cons_succ]
        refine wpAnyH_take (i := 4) (v := .pointer (some ⟨wr.heap.size, 1, Option.none⟩)) rfl (by kernel_rfl) (by kernel_rfl) (by kernel_rfl) (fun _ _ _ h => h) (Or.inl ⟨by rfl, ?yk34⟩) hHeld ?_
        case yk34 => intro w hSw; go_simp
        simp only [Act.put, List.getElem_toArray, List.getElem_cons_succ, List.getElem_cons_zero, List.setIfInBounds_toArray, List.set_cons_zero, List.set_cons_succ]
        refine wpAnyH_take (i := 5) (v := .string h.s) rfl (by kernel_rfl) (by kernel_rfl) (by kernel_rfl) (fun _ _ _ h => h) (Or.inl ⟨by rfl, ?yk35⟩) hHeld ?_
        case yk35 => intro w hSw; have q := (sx0 (rangeAt_later HW.out.1 hSw)).2.1; go_simp
        simp only [Act.put, List.getElem_toArray, List.getElem_cons_succ, List.getElem_cons_zero, List.setIfInBounds_toArray, List.set_cons_zero, List.set_cons_succ]
        refine wpAnyH_take (i := 6) (v := .string (((O ++ Pd) ++ (⟨#[102, 111, 114, 32]⟩ : ByteArray)) ++ h.s)) rfl (by kernel_rfl) (by kernel_rfl) (by kernel_rfl) (fun _ _ _ h => h) (Or.inl ⟨by rfl, ?yk36⟩) hHeld ?_
        case yk36 => intro w hSw; first | (go_simp; done) | (go_simp; rw [if_neg (by omega)]; done) | (go_simp; rw [if_neg (by simp only [ByteArray.size_append]; omega)]; done) | (go_simp; omega) | (go_simp; simp only [ByteArray.size_append]; omega)
        simp only [Act.put, List.getElem_toArray, List.getElem_cons_succ, List.getElem_cons_zero, List.setIfInBounds_toArray, List.set_cons_zero, List.set_cons_succ]
        refine wpAnyH_take (i := 7) (v := .string ((((O ++ Pd) ++ (⟨#[102, 111, 114, 32]⟩ : ByteArray)) ++ h.s) ++ (⟨#[32, 61, 32]⟩ : ByteArray))) rfl (by kernel_rfl) (by kernel_rfl) (by kernel_rfl) (fun _ _ _ h => h) (Or.inl ⟨by rfl, ?yk37⟩) hHeld ?_
        case yk37 => intro w hSw; first | (go_simp; done) | (go_simp; rw [if_neg (by omega)]; done) | (go_simp; rw [if_neg (by simp only [ByteArray.size_append]; omega)]; done) | (go_simp; omega) | (go_simp; simp only [ByteArray.size_append]; omega)
        simp only [Act.put, List.getElem_toArray, List.getElem_cons_succ, List.getElem_cons_zero, List.setIfInBounds_toArray, List.set_cons_zero, List.set_cons_succ]
        refine wpAnyH_take (i := 8) (v := .pointer (some ⟨wr.heap.size, 10, Option.none⟩)) rfl (by kernel_rfl) (by kernel_rfl) (by kernel_rfl) (fun _ _ _ h => h) (Or.inl ⟨by rfl, ?yk38⟩) hHeld ?_
        case yk38 => intro w hSw; go_simp
        simp only [Act.put, List.getElem_toArray, List.getElem_cons_succ, List.getElem_cons_zero, List.setIfInBounds_toArray, List.set_cons_zero, List.set_cons_succ]
        refine wpAnyH_take (i := 9) (v := .agg (xcells h.x3 v3).toArray) rfl (by kernel_rfl) (by kernel_rfl) (by kernel_rfl) (fun _ _ _ h => h) (yieldsIf_load_mid (by rfl) 65 _ rfl (wr.heap.size) (10) rfl (xcells h.x3 v3) _ (fun w h => sx3 (rangeAt_later HW.out.1 h)) Tryz.underlying65 rfl sizeIE2) hHeld ?_
        simp only [Act.put, List.getElem_toArray, List.getElem_cons_succ, List.getElem_cons_zero, List.setIfInBounds_toArray, List.set_cons_zero, List.set_cons_succ]
        refine wpAnyH_take (i := 13) (v := .pointer (some ⟨wr.heap.size, 14, Option.none⟩)) rfl (by kernel_rfl) (by kernel_rfl) (by kernel_rfl) (fun _ _ _ h => h) (Or.inl ⟨by rfl, ?yk313⟩) hHeld ?_
        case yk313 => intro w hSw; go_simp
        simp only [Act.put, List.getElem_toArray, List.getElem_cons_succ, List.getElem_cons_zero, List.setIfInBounds_toArray, List.set_cons_zero, List.set_cons_succ]
        refine wpAnyH_take (i := 14) (v := .agg (xcells h.x4 v4).toArray) rfl (by kernel_rfl) (by kernel_rfl) (by kernel_rfl) (fun _ _ _ h => h) (yieldsIf_load_mid (by rfl) 65 _ rfl (wr.heap.size) (14) rfl (xcells h.x4 v4) _ (fun w h => sx4 (rangeAt_later HW.out.1 h)) Tryz.underlying65 rfl sizeIE2) hHeld ?_
        simp only [Act.put, List.getElem_toArray, List.getElem_cons_succ, List.getElem_cons_zero, List.setIfInBounds_toArray, List.set_cons_zero, List.set_cons_succ]
        refine wpAnyH_take (i := 18) (v := .pointer (some ⟨wr.heap.size, 18, Option.none⟩)) rfl (by kernel_rfl) (by kernel_rfl) (by kernel_rfl) (fun _ _ _ h => h) (Or.inl ⟨by rfl, ?yk318⟩) hHeld ?_
        case yk318 => intro w hSw; go_simp
        simp only [Act.put, List.getElem_toArray, List.getElem_cons_succ, List.getElem_cons_zero, List.setIfInBounds_toArray, List.set_cons_zero, List.set_cons_succ]
        refine wpAnyH_take (i := 19) (v := u) rfl (by kernel_rfl) (by kernel_rfl) (by kernel_rfl) (fun _ _ _ h => h) (Or.inl ⟨by rfl, ?yk319⟩) hHeld ?_
        case yk319 => intro w hSw; have q := (sx0 (rangeAt_later HW.out.1 hSw)).2.2; go_simp
        simp only [Act.put, List.getElem_toArray, List.getElem_cons_succ, List.getElem_cons_zero, List.setIfInBounds_toArray, List.set_cons_zero, List.set_cons_succ]
        refine wpAnyH_take (i := 20) (v := .string Pd) rfl (by kernel_rfl) (by kernel_rfl) (by kernel_rfl) (fun _ _ _ h => h) (Or.inl ⟨by rfl, ?yk320⟩) hHeld ?_
        case yk320 => intro w hSw; go_simp
        simp only [Act.put, List.getElem_toArray, List.getElem_cons_succ, List.getElem_cons_zero, List.setIfInBounds_toArray, List.set_cons_zero, List.set_cons_succ]
        refine wpAnyH_take (i := 21) (v := .string (Pd ++ (⟨#[32, 32]⟩ : ByteArray))) rfl (by kernel_rfl) (by kernel_rfl) (by kernel_rfl) (fun _ _ _ h => h) (Or.inl ⟨by rfl, ?yk321⟩) hHeld ?_
        case yk321 => intro w hSw; first | (go_simp; done) | (go_simp; rw [if_neg (by omega)]; done) | (go_simp; rw [if_neg (by simp only [ByteArray.size_append]; omega)]; done) | (go_simp; omega) | (go_simp; simp only [ByteArray.size_append]; omega)
        simp only [Act.put, List.getElem_toArray, List.getElem_cons_succ, List.getElem_cons_zero, List.setIfInBounds_toArray, List.set_cons_zero, List.set_cons_succ]
        refine wpAnyH_take (i := 24) (v := .string Pd) rfl (by kernel_rfl) (by kernel_rfl) (by kernel_rfl) (fun _ _ _ h => h) (Or.inl ⟨by rfl, ?yk324⟩) hHeld ?_
        case yk324 => intro w hSw; go_simp
        simp only [Act.put, List.getElem_toArray, List.getElem_cons_succ, List.getElem_cons_zero, List.setIfInBounds_toArray, List.set_cons_zero, List.set_cons_succ]
        refine wpAnyH_ready (rs := [10]) (by kernel_rfl) (by simp) ?_
        refine AllReadyH.cons rfl (fun K hK => ?_) AllReadyH.nil
        rw [if_pos (by rfl)]
        simp only [List.getElem_toArray, List.getElem_cons_succ, List.getElem_cons_zero]
        go_wp2_with fail
        refine (CX3.out _ (BW.out.trans (hHeld.mono BW.out.size))).mono ?_
        rintro e w1 ⟨rfl, hb1⟩
        go_wp2_with fail
        refine hK.out _ _ (hHeld.trans (hb1.mono hHeld.size)) (fun hHeld => ?_)
        try simp only [Act.put, List.getElem_toArray, List.getElem_cons_succ, List.getElem_cons_zero, List.setIfInBounds_toArray, List.set_cons_zero, List.set_cons_succ]
        refine wpAnyH_take (i := 11) (v := .string (((((O ++ Pd) ++ (⟨#[102, 111, 114, 32]⟩ : ByteArray)) ++ h.s) ++ (⟨#[32, 61, 32]⟩ : ByteArray)) ++ X3)) rfl (by kernel_rfl) (by kernel_rfl) (by kernel_rfl) (fun _ _ _ h => h) (Or.inl ⟨by rfl, ?yk311⟩) hHeld ?_
        case yk311 => intro w hSw; first | (go_simp; done) | (go_simp; rw [if_neg (by omega)]; done) | (go_simp; rw [if_neg (by simp only [ByteArray.size_append]; omega)]; done) | (go_simp; omega) | (go_simp; simp only [ByteArray.size_append]; omega)
        simp only [Act.put, List.getElem_toArray, List.getElem_cons_succ, List.getElem_cons_zero, List.setIfInBounds_toArray, List.set_cons_zero, List.set_cons_succ]
        refine wpAnyH_take (i := 12) (v := .string ((((((O ++ Pd) ++ (⟨#[102, 111, 114, 32]⟩ : ByteArray)) ++ h.s) ++ (⟨#[32, 61, 32]⟩ : ByteArray)) ++ X3) ++ (⟨#[32, 116, 111, 32]⟩ : ByteArray))) rfl (by kernel_rfl) (by kernel_rfl) (by kernel_rfl) (fun _ _ _ h => h) (Or.inl ⟨by rfl, ?yk312⟩) hHeld ?_
        case yk312 => intro w hSw; first | (go_simp; done) | (go_simp; rw [if_neg (by omega)]; done) | (go_simp; rw [if_neg (by simp only [ByteArray.size_append]; omega)]; done) | (go_simp; omega) | (go_simp; simp only [ByteArray.size_append]; omega)
        simp only [Act.put, List.getElem_toArray, List.getElem_cons_succ, List.getElem_cons_zero, List.setIfInBounds_toArray, List.set_cons_zero, List.set_cons_succ]
        refine wpAnyH_ready (rs := [15]) (by kernel_rfl) (by simp) ?_
        refine AllReadyH.cons rfl (fun K hK => ?_) AllReadyH.nil
        rw [if_pos (by rfl)]
        simp only [List.getElem_toArray, List.getElem_cons_succ, List.getElem_cons_zero]
        go_wp2_with fail
        refine (CX4.out _ (BW.out.trans (hHeld.mono BW.out.size))).mono ?_
        rintro e w2 ⟨rfl, hb2⟩
        go_wp2_with fail
        refine hK.out _ _ (hHeld.trans (hb2.mono hHeld.size)) (fun hHeld => ?_)
        try simp only [Act.put, List.getElem_toArray, List.getElem_cons_succ, List.getElem_cons_zero, List.setIfInBounds_toArray, List.set_cons_zero, List.set_cons_succ]
        refine wpAnyH_take (i := 16) (v := .string (((((((O ++ Pd) ++ (⟨#[102, 111, 114, 32]⟩ : ByteArray)) ++ h.s) ++ (⟨#[32, 61, 32]⟩ : ByteArray)) ++ X3) ++ (⟨#[32, 116, 111, 32]⟩ : ByteArray)) ++ X4)) rfl (by kernel_rfl) (by kernel_rfl) (by kernel_rfl) (fun _ _ _ h => h) (Or.inl ⟨by rfl, ?yk316⟩) hHeld ?_
        case yk316 => intro w hSw; first | (go_simp; done) | (go_simp; rw [if_neg (by omega)]; done) | (go_simp; rw [if_neg (by simp only [ByteArray.size_append]; omega)]; done) | (go_simp; omega) | (go_simp; simp only [ByteArray.size_append]; omega)
        simp only [Act.put, List.getElem_toArray, List.getElem_cons_succ, List.getElem_cons_zero, List.setIfInBounds_toArray, List.set_cons_zero, List.set_cons_succ]
        refine wpAnyH_take (i := 17) (v := .string ((((((((O ++ Pd) ++ (⟨#[102, 111, 114, 32]⟩ : ByteArray)) ++ h.s) ++ (⟨#[32, 61, 32]⟩ : ByteArray)) ++ X3) ++ (⟨#[32, 116, 111, 32]⟩ : ByteArray)) ++ X4) ++ (⟨#[32, 123, 10]⟩ : ByteArray))) rfl (by kernel_rfl) (by kernel_rfl) (by kernel_rfl) (fun _ _ _ h => h) (Or.inl ⟨by rfl, ?yk317⟩) hHeld ?_
        case yk317 => intro w hSw; first | (go_simp; done) | (go_simp; rw [if_neg (by omega)]; done) | (go_simp; rw [if_neg (by simp only [ByteArray.size_append]; omega)]; done) | (go_simp; omega) | (go_simp; simp only [ByteArray.size_append]; omega)
        simp only [Act.put, List.getElem_toArray, List.getElem_cons_succ, List.getElem_cons_zero, List.setIfInBounds_toArray, List.set_cons_zero, List.set_cons_succ]
        refine wpAnyH_ready (rs := [22]) (by kernel_rfl) (by simp) ?_
        refine AllReadyH.cons rfl (fun K hK => ?_) AllReadyH.nil
        rw [if_pos (by rfl)]
        simp only [List.getElem_toArray, List.getElem_cons_succ, List.getElem_cons_zero]
        go_wp2_with fail
        refine (CT.out _ (BW.out.trans (hHeld.mono BW.out.size))).mono ?_
        rintro e w3 ⟨rfl, hb3⟩
        go_wp2_with fail
        refine hK.out _ _ (hHeld.trans (hb3.mono hHeld.size)) (fun hHeld => ?_)
        try simp only [Act.put, List.getElem_toArray, List.getElem_cons_succ, List.getElem_cons_zero, List.setIfInBounds_toArray, List.set_cons_zero, List.set_cons_succ]
        refine wpAnyH_take (i := 23) (v := .string (((((((((O ++ Pd) ++ (⟨#[102, 111, 114, 32]⟩ : ByteArray)) ++ h.s) ++ (⟨#[32, 61, 32]⟩ : ByteArray)) ++ X3) ++ (⟨#[32, 116, 111, 32]⟩ : ByteArray)) ++ X4) ++ (⟨#[32, 123, 10]⟩ : ByteArray)) ++ T)) rfl (by kernel_rfl) (by kernel_rfl) (by kernel_rfl) (fun _ _ _ h => h) (Or.inl ⟨by rfl, ?yk323⟩) hHeld ?_
        case yk323 => intro w hSw; first | (go_simp; done) | (go_simp; rw [if_neg (by omega)]; done) | (go_simp; rw [if_neg (by simp only [ByteArray.size_append]; omega)]; done) | (go_simp; omega) | (go_simp; simp only [ByteArray.size_append]; omega)
        simp only [Act.put, List.getElem_toArray, List.getElem_cons_succ, List.getElem_cons_zero, List.setIfInBounds_toArray, List.set_cons_zero, List.set_cons_succ]
        refine wpAnyH_take (i := 25) (v := .string ((((((((((O ++ Pd) ++ (⟨#[102, 111, 114, 32]⟩ : ByteArray)) ++ h.s) ++ (⟨#[32, 61, 32]⟩ : ByteArray)) ++ X3) ++ (⟨#[32, 116, 111, 32]⟩ : ByteArray)) ++ X4) ++ (⟨#[32, 123, 10]⟩ : ByteArray)) ++ T) ++ Pd)) rfl (by kernel_rfl) (by kernel_rfl) (by kernel_rfl) (fun _ _ _ h => h) (Or.inl ⟨by rfl, ?yk325⟩) hHeld ?_
        case yk325 => intro w hSw; first | (go_simp; done) | (go_simp; rw [if_neg (by omega)]; done) | (go_simp; rw [if_neg (by simp only [ByteArray.size_append]; omega)]; done) | (go_simp; omega) | (go_simp; simp only [ByteArray.size_append]; omega)
        simp only [Act.put, List.getElem_toArray, List.getElem_cons_succ, List.getElem_cons_zero, List.setIfInBounds_toArray, List.set_cons_zero, List.set_cons_succ]
        refine wpAnyH_take (i := 26) (v := .string (((((((((((O ++ Pd) ++ (⟨#[102, 111, 114, 32]⟩ : ByteArray)) ++ h.s) ++ (⟨#[32, 61, 32]⟩ : ByteArray)) ++ X3) ++ (⟨#[32, 116, 111, 32]⟩ : ByteArray)) ++ X4) ++ (⟨#[32, 123, 10]⟩ : ByteArray)) ++ T) ++ Pd) ++ (⟨#[125, 10]⟩ : ByteArray))) rfl (by kernel_rfl) (by kernel_rfl) (by kernel_rfl) (fun _ _ _ h => h) (Or.inl ⟨by rfl, ?yk326⟩) hHeld ?_
        case yk326 => intro w hSw; first | (go_simp; done) | (go_simp; rw [if_neg (by omega)]; done) | (go_simp; rw [if_neg (by simp only [ByteArray.size_append]; omega)]; done) | (go_simp; omega) | (go_simp; simp only [ByteArray.size_append]; omega)
        simp only [Act.put, List.getElem_toArray, List.getElem_cons_succ, List.getElem_cons_zero, List.setIfInBounds_toArray, List.set_cons_zero, List.set_cons_succ]
        refine wpAnyH_take (i := 27) (v := .string (((((((((((O ++ Pd) ++ (⟨#[102, 111, 114, 32]⟩ : ByteArray)) ++ h.s) ++ (⟨#[32, 61, 32]⟩ : ByteArray)) ++ X3) ++ (⟨#[32, 116, 111, 32]⟩ : ByteArray)) ++ X4) ++ (⟨#[32, 123, 10]⟩ : ByteArray)) ++ T) ++ Pd) ++ (⟨#[125, 10]⟩ : ByteArray))) rfl (by kernel_rfl) (by kernel_rfl) (by kernel_rfl) (fun _ _ _ h => h) (Or.inl ⟨by rfl, ?yk327⟩) hHeld ?_
        case yk327 => intro w hSw; go_simp
        simp only [Act.put, List.getElem_toArray, List.getElem_cons_succ, List.getElem_cons_zero, List.setIfInBounds_toArray, List.set_cons_zero, List.set_cons_succ]
        refine wpAnyH_done (by kernel_rfl) ?_ _
        have BB := Lib.hid (BW.out.trans (hHeld.mono BW.out.size))
        clear hHeld bd ck
        rw [E.out]
        clear E
        go_wp2
        go_roundw
        case rel => exact ⟨r, acc ++ stT p h (bodyT l (p ++ [32, 32])), j + 1, rfl, by go_num, He, BB⟩
        case measure => simp [RowKit.intOf]; omega
      · have hd : (h.k == h.k) = true := by simp
        have l2 := expOk_len hx
        obtain ⟨X2, HX2⟩ : ∃ T, Hid (str (xT h.x2) = T) := ⟨_, rfl⟩
        have sX2 : X2.size ≤ 2400 := by rw [← HX2.out, str_size]; exact l2
        have CX2 : Hid (∀ W, Below w.heap.size w W → Calls Tryz.prog 33 #[.agg (xcells h.x2 v2).toArray] W fun e w' => e = .returned (.string X2) ∧ Below W.heap.size W w') := Lib.hid fun W hW => by rw [← HX2.out]; exact l6Exp_all 8 h.x2 (expOk_parts hx).1 (expOk_parts hx).2 W v2 (H0.out.1.e2.later hW)
        have E := Lib.hid (show ((((O ++ Pd) ++ (⟨#[112, 114, 105, 110, 116, 32]⟩ : ByteArray)) ++ X2) ++ (⟨#[59, 10]⟩ : ByteArray)) = str (acc ++ stT p h (bodyT l (p ++ [32, 32]))) by
          rw [← HO.out, ← HPd.out, ← HX2.out, stT_4 hk]
          simp only [str_app, str_list, List.append_assoc, lit_str, show (⟨#[112, 114, 105, 110, 116, 32]⟩ : ByteArray) = str [112, 114, 105, 110, 116, 32] from rfl, show (⟨#[59, 10]⟩ : ByteArray) = str [59, 10] from rfl])
        clear q1 q3 l2 Hih hd
        go_wp2_with (first | (refine wpList_load_mid rfl 67 _ rfl b (o + j * 19) rfl _ _ Hrg.out Tryz.underlying67 rfl sizeIS ?_) | (refine store_abs rfl 67 _ _ rfl wr.heap.size 0 (scells h v1 v2 v3 v4 u).toArray rfl rfl (newthere wr _) sizeIS (oneS h v1 v2 v3 v4 _ o1 o2 o3 o4 o5) ?_; intro W hW; have HW := Lib.hid (newblkS h v1 v2 v3 v4 _ hW); clear hW; have ck := (sx0 HW.out.1).1; rw [hk] at ck) | (refine wpList_load_mid rfl 65 _ rfl wr.heap.size 6 rfl _ _ (sx2 HW.out.1) Tryz.underlying65 rfl sizeIE2 ?_))
        have BW := Lib.hid (hbw.out.trans (HW.out.2.mono hbw.out.size))
        clear ck
        refine (CX2.out _ BW.out).mono ?_
        rintro e w1 ⟨rfl, hb1⟩
        have BB := Lib.hid (BW.out.trans (hb1.mono BW.out.size))
        clear hb1 CX2
        go_wp2
        rw [E.out]
        clear E
        go_roundw
        case rel => exact ⟨r, acc ++ stT p h (bodyT l (p ++ [32, 32])), j + 1, rfl, by go_num, He, BB⟩
        case measure => simp [RowKit.intOf]; omega
theorem l6Body_all (d : Nat) : TextC6 13 d := Nat.strongRecOn d fun d ih => l6Body_step d ih
end Go.Proofs.YtkhccpjkajhnpabGreatDoor
/-
  Names in order (no Go): what l4Put makes of a row of names, and that rows in order with the same names are the same.
-/
namespace Go.Proofs.YtkhccpjkajhnpabGreatDoor
open Go.RowKit Go.Lib Go.Maps
set_option linter.unusedSimpArgs false
set_option linter.unusedVariables false

/-- One name ahead of another, byte by byte. -/
def blt (a b : ByteArray) : Bool := Op.bytesLess a.toList b.toList
theorem blt_iff (a b : ByteArray) : blt a b = true ↔ a.data.toList < b.data.toList := by
  unfold blt; rw [bytesLess_eq, ByteArray.toList_eq, ByteArray.toList_eq]; simp
theorem blt_irrefl (a : ByteArray) : blt a a = false := by
  cases h : blt a a with
  | false => rfl
  | true => exact absurd ((blt_iff a a).1 h) (List.lt_irrefl _)
theorem blt_trans {a b c : ByteArray} (h : blt a b = true) (g : blt b c = true) : blt a c = true := (blt_iff a c).2 (List.lt_trans ((blt_iff a b).1 h) ((blt_iff b c).1 g))
theorem ba_ext {a b : ByteArray} (h : a.data.toList = b.data.toList) : a = b := ByteArray.ext (Array.toList_inj.1 h)
theorem blt_total {a b : ByteArray} (h : blt a b = false) (hne : a ≠ b) : blt b a = true := by
  rw [blt_iff]
  have h1 : ¬ a.data.toList < b.data.toList := fun hh => by rw [(blt_iff a b).2 hh] at h; cases h
  have h2 : b.data.toList ≤ a.data.toList := List.not_lt.1 h1
  rcases List.le_iff_lt_or_eq.1 h2 with h3 | h3
  · exact h3
  · exact absurd (ba_ext h3).symm hne
/-- In order, no two alike. -/
def Asc (l : List ByteArray) : Prop := l.Pairwise (fun a b => blt a b = true)
theorem Asc.nodup {l : List ByteArray} (h : Asc l) : l.Nodup := List.Pairwise.imp (fun {a b} hab e => by subst e; rw [blt_irrefl] at hab; cases hab) h
theorem asc_ext {l m : List ByteArray} (hl : Asc l) (hm : Asc m) (h : ∀ b, b ∈ l ↔ b ∈ m) : l = m :=
  List.Perm.eq_of_pairwise (le := fun a b => blt a b = true) (fun a b _ _ h1 h2 => by have := blt_trans h1 h2; rw [blt_irrefl] at this; cases this) hl hm ((List.perm_ext_iff_of_nodup hl.nodup hm.nodup).2 h)
/-- What l4Put makes of what is left of a row. -/
def putR (s : ByteArray) : Bool → List ByteArray → List ByteArray
  | d, [] => if d = true then [] else [s]
  | true, x :: r => if x = s then putR s true r else x :: putR s true r
  | false, x :: r => if blt x s = true then (if x = s then putR s false r else x :: putR s false r) else s :: (if x = s then putR s true r else x :: putR s true r)
theorem putR_true (s : ByteArray) : ∀ (l : List ByteArray) (b : ByteArray), b ∈ putR s true l ↔ b ∈ l ∧ b ≠ s
  | [], b => by simp [putR]
  | x :: r, b => by
    have ih := putR_true s r b
    rw [putR]
    by_cases hx : x = s
    · rw [if_pos hx, ih]
      constructor
      · rintro ⟨h1, h2⟩; exact ⟨List.mem_cons_of_mem _ h1, h2⟩
      · rintro ⟨h1, h2⟩
        rcases List.mem_cons.1 h1 with h1 | h1
        · exact absurd (h1.trans hx) h2
        · exact ⟨h1, h2⟩
    · rw [if_neg hx, List.mem_cons, ih, List.mem_cons]
      constructor
      · rintro (h | ⟨h1, h2⟩)
        · exact ⟨.inl h, by rw [h]; exact hx⟩
        · exact ⟨.inr h1, h2⟩
      · rintro ⟨h1 | h1, h2⟩
        · exact .inl h1
        · exact .inr ⟨h1, h2⟩
theorem asc_true (s : ByteArray) : ∀ (l : List ByteArray), Asc l → Asc (putR s true l)
  | [], _ => by simp [putR, Asc]
  | x :: r, h => by
    obtain ⟨h1, h2⟩ := List.pairwise_cons.1 h
    have ih := asc_true s r h2
    rw [putR]
    by_cases hx : x = s
    · rw [if_pos hx]; exact ih
    · rw [if_neg hx]; exact List.pairwise_cons.2 ⟨fun b hb => h1 b ((putR_true s r b).1 hb).1, ih⟩
theorem asc_put (s : ByteArray) : ∀ (l : List ByteArray), Asc l → Asc (putR s false l) ∧ ∀ b, b ∈ putR s false l ↔ (b = s ∨ b ∈ l)
  | [], _ => by simp [putR, Asc]
  | x :: r, h => by
    obtain ⟨h1, h2⟩ := List.pairwise_cons.1 h
    obtain ⟨i1, i2⟩ := asc_put s r h2
    rw [putR]
    cases hb : blt x s with
    | true =>
      have hx : ¬ x = s := fun e => by subst e; rw [blt_irrefl] at hb; cases hb
      rw [if_pos rfl, if_neg hx]
      refine ⟨List.pairwise_cons.2 ⟨fun b hbm => ?_, i1⟩, fun b => ?_⟩
      · rcases (i2 b).1 hbm with e | e
        · subst e; exact hb
        · exact h1 b e
      · rw [List.mem_cons, i2 b, List.mem_cons]
        constructor
        · rintro (e | e | e) <;> simp [e]
        · rintro (e | e | e) <;> simp [e]
    | false =>
      rw [if_neg (by simp)]
      by_cases hx : x = s
      · subst hx
        rw [if_pos rfl]
        refine ⟨List.pairwise_cons.2 ⟨fun b hbm => h1 b ((putR_true x r b).1 hbm).1, asc_true x r h2⟩, fun b => ?_⟩
        rw [List.mem_cons, putR_true, List.mem_cons]
        constructor
        · rintro (e | ⟨e, _⟩)
          · exact .inl e
          · exact .inr (.inr e)
        · rintro (e | e | e)
          · exact .inl e
          · exact .inl e
          · by_cases hbx : b = x
            · exact .inl hbx
            · exact .inr ⟨e, hbx⟩
      · have hsx := blt_total hb hx
        rw [if_neg hx]
        refine ⟨List.pairwise_cons.2 ⟨fun b hbm => ?_, List.pairwise_cons.2 ⟨fun b hbm => h1 b ((putR_true s r b).1 hbm).1, asc_true s r h2⟩⟩, fun b => ?_⟩
        · rcases List.mem_cons.1 hbm with e | e
          · rw [e]; exact hsx
          · exact blt_trans hsx (h1 b ((putR_true s r b).1 e).1)
        · rw [List.mem_cons, List.mem_cons, putR_true, List.mem_cons]
          constructor
          · rintro (e | e | ⟨e, _⟩)
            · exact .inl e
            · exact .inr (.inl e)
            · exact .inr (.inr e)
          · rintro (e | e | e)
            · exact .inl e
            · exact .inr (.inl e)
            · by_cases hbs : b = s
              · exact .inl hbs
              · exact .inr (.inr ⟨e, hbs⟩)
/-- How long a row gets. -/
theorem putR_len (s : ByteArray) : ∀ (d : Bool) (l : List ByteArray), (putR s d l).length ≤ l.length + 1
  | true, [] => by simp [putR]
  | false, [] => by simp [putR]
  | true, x :: r => by
    have := putR_len s true r
    rw [putR]; split <;> simp only [List.length_cons] <;> omega
  | false, x :: r => by
    have h1 := putR_len s false r
    have h2 : (putR s true r).length ≤ r.length := by
      clear h1
      induction r with
      | nil => simp [putR]
      | cons y r ih => rw [putR]; split <;> simp only [List.length_cons] <;> omega
    rw [putR]; split <;> split <;> simp only [List.length_cons] <;> omega
/-- The names of statements of a kind, behind those that came. -/
def nmS (k : Int) : SF → List ByteArray → List ByteArray
  | .nil, out => out
  | .node _ _ h l r, out => nmS k r (nmS k l (if h.k = k then putR h.s false out else out))
/-- The names of expressions of a kind. -/
def nmE (k : Int) : EF → List ByteArray → List ByteArray
  | .nil, out => out
  | .node _ _ h l r, out => nmE k r (nmE k l (if h.k = k then putR h.s false out else out))
def nmX (k : Int) (x : X) (out : List ByteArray) : List ByteArray := nmE k x.l (if x.h.k = k then putR x.h.s false out else out)
def nmA (k : Int) : SF → List ByteArray → List ByteArray
  | .nil, out => out
  | .node _ _ h l r, out => nmA k r (nmA k l (nmX k h.x4 (nmX k h.x3 (nmX k h.x2 (nmX k h.x1 out)))))
end Go.Proofs.YtkhccpjkajhnpabGreatDoor
