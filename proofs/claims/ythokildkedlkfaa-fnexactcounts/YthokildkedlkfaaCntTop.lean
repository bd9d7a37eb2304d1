/-
  Counts of the specification.
-/
import Derived.Test.YthokildkedlkfaaCntStm
namespace Go.Proofs.Ythokildkedlkfaa
open Go.RowKit Go.Lib
set_option linter.unusedSimpArgs false
set_option linter.unusedVariables false

set_option maxHeartbeats 4000000 in
set_option maxRecDepth 100000 in
theorem Counts_step (s : ByteArray) (F : SF)
    (ih : ∀ l : SF, snodes l < snodes F → ∀ (w : World) (v : Value), (sallE l).length ≤ 10000000 → snodes l ≤ 10000000 → SV w 0 l v → Calls Try.prog 13 #[v, .string s] w (CntP s l w))
    (w : World) (v : Value) (hN : (sallE F).length ≤ 10000000) (hM : snodes F ≤ 10000000) (hv : SV w 0 F v) :
    Calls Try.prog 13 #[v, .string s] w (CntP s F w) := by
  obtain ⟨b, o, ao, cap, rfl, hao, _, hin⟩ := hv
  have Hih := Lib.hid ih
  have hlenF := slen_le F
  have hlI : (slen F : Int) ≤ 10000000 := by omega
  have HNM := Lib.hid (And.intro hN hM)
  clear ih hN hM
  go_enter Try.func13, Try.ntmps13
  go_wp2
  go_loopw [6, 7, 8] (fun p q i wr => ∃ (R : SF) (j pp qq : Nat), i = .int .i64 (j : Int) ∧ p = .int .i64 (pp : Int) ∧ q = .int .i64 (qq : Int) ∧ Hid (j + slen R = slen F ∧ pp + setsF s R = setsF s F ∧ qq + asksF s R = asksF s F ∧ snodes R ≤ snodes F ∧ (sallE R).length ≤ (sallE F).length ∧ SIn w 0 R b (o + j * 19)) ∧ Below w.heap.size w wr) (fun _ _ i _ => slen F - (RowKit.intOf i).toNat)
  case atStart => exact ⟨F, 0, 0, 0, rfl, rfl, rfl, ⟨by omega, by omega, by omega, Nat.le_refl _, Nat.le_refl _, by simpa using hin⟩, Below.refl _ _⟩
  case round =>
    obtain ⟨R, j, pp, qq, rfl, rfl, rfl, hr, hbw⟩ := hrel
    obtain ⟨e1, e2, e3, e4, e5, e6⟩ := hr.out
    cases R with
    | nil =>
      have hk : ¬ (j : Int) < (slen F : Int) := by simp only [slen] at e1; omega
      have E2 : Hid (pp = setsF s F) := show _ = _ by rw [← e2]; simp [setsF, sall]
      have E3 : Hid (qq = asksF s F) := show _ = _ by rw [← e3]; simp [asksF, sallE]
      clear hr e2 e3
      go_wp2
      exact bodyPost_ret (v := .tuple #[.int .i64 (pp : Int), .int .i64 (qq : Int)]) (by simp [results, Try.results13, go_sem]) rfl ⟨by rw [← E2.out, ← E3.out], hbw⟩
    | node p q h l r =>
      have hlt : (j : Int) < (slen F : Int) := by simp only [slen] at e1; omega
      have hne : ¬ F = .nil := by intro e; subst e; simp only [slen] at e1; omega
      obtain rfl : ao = some ⟨b, o, Option.none⟩ := hao.resolve_right hne
      have hsc0 := (SIn_node.1 e6).1
      have hr0 := (SIn_node.1 e6).2
      rw [setsF_node] at e2
      rw [asksF_node] at e3
      simp only [snodes] at e4
      simp only [sallE, List.length_append, hall_len] at e5
      have hbF1 := setsF_le s F
      have hbF2 := asksF_le s F
      obtain ⟨w1, w2, w3, w4, w5, hhv, hsv, g1⟩ := SC.range (SC.later hsc0 hbw)
      obtain ⟨hk0, hs0, x1, x2, x3, x4⟩ := h
      have HSV := Lib.hid (And.intro hhv hsv)
      have HNM2 := HNM.out
      have Hl := Lib.hid (fun (wz : World) (vz : Value) (hz : SV wz 0 l vz) => Hih.out l (by omega) wz vz (by omega) (by omega) hz)
      obtain ⟨aa, haa⟩ : ∃ a : Nat, (if hitS s (⟨hk0, hs0, x1, x2, x3, x4⟩, l) = true then 1 else 0) + setsF s l = a := ⟨_, rfl⟩
      obtain ⟨bb, hbb⟩ : ∃ a : Nat, asksH s ⟨hk0, hs0, x1, x2, x3, x4⟩ + asksF s l = a := ⟨_, rfl⟩
      have hpI : (pp : Int) + (aa : Int) ≤ 10000000 := by omega
      have hqI : (qq : Int) + (bb : Int) ≤ 10000000 := by omega
      have He : Hid (j + 1 + slen r = slen F ∧ pp + aa + setsF s r = setsF s F ∧ qq + bb + asksF s r = asksF s F ∧ snodes r ≤ snodes F ∧ (sallE r).length ≤ (sallE F).length ∧ SIn w 0 r b (o + (j + 1) * 19)) :=
        ⟨by simp only [slen] at e1; omega, by omega, by omega, by omega, by omega, by rw [show o + (j + 1) * 19 = o + j * 19 + 19 by omega]; exact hr0⟩
      have HC := Lib.hid (l12Stmt_is s hk0 hs0 x1 x2 x3 x4 l w1 w2 w3 w4 w5 wr hhv hsv (by dsimp only at e5; omega) (by omega) Hl.out)
      rw [haa, hbb] at HC
      clear hr e1 e2 e3 e4 e5 e6 hin hne hao hsv hhv hr0 hsc0 haa hbb HNM2 hbF1 hbF2
      go_wp2_with (refine wpList_load_mid rfl 29 _ rfl b (o + j * 19) rfl _ _ g1 Try.underlying29 rfl sizeIS ?_)
      refine HC.out.mono ?_
      rintro e w9 ⟨rfl, hb2⟩
      have hbw2 := Lib.hid (hbw.trans (hb2.mono hbw.size))
      clear hb2 g1 hbw
      go_wp2
      go_roundw
      case rel => exact ⟨r, j + 1, pp + aa, qq + bb, by go_num, by go_num, by go_num, He.out, hbw2.out⟩
      case measure => simp [RowKit.intOf]; omega
theorem Counts_all (s : ByteArray) : ∀ (n : Nat) (F : SF), snodes F < n → ∀ (w : World) (v : Value), (sallE F).length ≤ 10000000 → snodes F ≤ 10000000 → SV w 0 F v → Calls Try.prog 13 #[v, .string s] w (CntP s F w)
  | 0, _, h, _, _, _, _, _ => absurd h (by omega)
  | n + 1, F, h, w, v, hN, hM, hv => Counts_step s F (fun l hl w v hN hM hv => Counts_all s n l (by omega) w v hN hM hv) w v hN hM hv
theorem spec_Counts (s : ByteArray) (F : SF) (w : World) (v : Value) (hN : (sallE F).length ≤ 10000000) (hM : snodes F ≤ 10000000) (hv : SV w 0 F v) : Calls Try.prog 13 #[v, .string s] w (CntP s F w) := Counts_all s _ F (Nat.lt_succ_self _) w v hN hM hv
end Go.Proofs.Ythokildkedlkfaa
