/-
  The contracts of Size, the specification's and the landed code's.
-/
import Derived.Test.YtkilmefpaojkfaaGreatAstUnder
namespace Go.Proofs.YtkilmefpaojkfaaGreat
open Go.RowKit Go.Lib
set_option linter.unusedSimpArgs false
set_option linter.unusedVariables false

set_option maxHeartbeats 1000000 in
theorem spec_Size_step (F : SF) (hF : snodes F ≤ 10000000)
    (ih : ∀ l : SF, snodes l < snodes F → ∀ (w : World) (v : Value), SV w 0 l v → Calls Tryz.prog 68 #[v] w fun e w' => e = .returned (.int .i64 (snodes l : Int)) ∧ Below w.heap.size w w')
    (w : World) (v : Value) (hv : SV w 0 F v) :
    Calls Tryz.prog 68 #[v] w fun e w' => e = .returned (.int .i64 (snodes F : Int)) ∧ Below w.heap.size w w' := by
  obtain ⟨b, o, ao, cap, rfl, hao, _, hin⟩ := hv
  have Hih := Lib.hid ih
  have hlenF := slen_le F
  clear ih
  go_enter Tryz.func68, Tryz.ntmps68
  go_wp2
  go_loopw [3, 4] (fun x i wr => ∃ (R : SF) (k c : Nat), i = .int .i64 (k : Int) ∧ x = .int .i64 (c : Int) ∧ Hid (k + slen R = slen F ∧ c + snodes R = snodes F ∧ SIn w 0 R b (o + k * 19)) ∧ Below w.heap.size w wr) (fun _ i _ => slen F - (RowKit.intOf i).toNat)
  case atStart => exact ⟨F, 0, 0, rfl, rfl, ⟨by omega, by omega, by simpa using hin⟩, Below.refl _ _⟩
  case round =>
    obtain ⟨R, k, c, rfl, rfl, hr, hbw⟩ := hrel
    obtain ⟨e1, e2, e3⟩ := hr.out
    cases R with
    | nil =>
      have hk : ¬ (k : Int) < (slen F : Int) := by simp only [slen] at e1; omega
      simp only [snodes] at e2
      go_wp2
      go_ret
      exact retI (by omega) hbw
    | node p q h l r =>
      have hlt : (k : Int) < (slen F : Int) := by simp only [slen] at e1; omega
      have hne : ¬ F = .nil := by intro e; subst e; simp only [slen] at e1; omega
      obtain rfl : ao = some ⟨b, o, Option.none⟩ := hao.resolve_right hne
      obtain ⟨hsc, hinr⟩ := SIn_node.1 (SIn_later hbw _ _ _ e3)
      obtain ⟨_, _, _, _, _, _, u, c18, hu⟩ := hsc
      simp only [snodes] at e2
      have Hl := Lib.hid (Hih.out l (by omega))
      have He : Hid (k + 1 + slen r = slen F ∧ c + 1 + snodes l + snodes r = snodes F ∧ SIn w 0 r b (o + (k + 1) * 19)) := ⟨by simp only [slen] at e1; omega, by omega, by rw [show o + (k + 1) * 19 = o + k * 19 + 19 by omega]; exact (SIn_node.1 e3).2⟩
      have hc1 : (c : Int) + 1 ≤ 10000000 := by omega
      have hl1 : (snodes l : Int) ≤ 10000000 := by omega
      clear hr e1 e2 e3 hinr hin hne hao
      go_wp2_with fail
      refine (Hl.out _ u hu).mono ?_
      rintro e w1 ⟨rfl, hb1⟩
      have hbw1 := hbw.trans (hb1.mono hbw.size)
      clear hb1 hbw c18 hu
      go_wp2
      go_roundw
      case rel => exact ⟨r, k + 1, c + 1 + snodes l, by go_num, by go_num, He.out, hbw1⟩
      case measure => simp [RowKit.intOf]; omega
theorem spec_Size_all : ∀ (n : Nat) (F : SF), snodes F < n → snodes F ≤ 10000000 → ∀ (w : World) (v : Value), SV w 0 F v → Calls Tryz.prog 68 #[v] w fun e w' => e = .returned (.int .i64 (snodes F : Int)) ∧ Below w.heap.size w w'
  | 0, _, h, _, _, _, _ => absurd h (by omega)
  | n + 1, F, h, hF, w, v, hv => spec_Size_step F hF (fun l hl w v a => spec_Size_all n l (by omega) (by omega) w v a) w v hv
theorem spec_Size (F : SF) (hF : snodes F ≤ 10000000) (w : World) (v : Value) (hv : SV w 0 F v) :
    Calls Tryz.prog 68 #[v] w fun e w' => e = .returned (.int .i64 (snodes F : Int)) ∧ Below w.heap.size w w' := spec_Size_all _ F (Nat.lt_succ_self _) hF w v hv
end Go.Proofs.YtkilmefpaojkfaaGreat
