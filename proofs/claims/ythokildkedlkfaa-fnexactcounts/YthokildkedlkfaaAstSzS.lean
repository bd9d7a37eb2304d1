/-
  The contract of szStmtS.
-/
import Derived.Test.YthokildkedlkfaaAstSzH
namespace Go.Proofs.Ythokildkedlkfaa
open Go.RowKit Go.Lib
set_option linter.unusedSimpArgs false
set_option linter.unusedVariables false

set_option maxHeartbeats 2000000 in
set_option maxRecDepth 100000 in
theorem szStmtS_step (F : SF) (hF : sok F) (hM : slen F ≤ 9223372036854775807)
    (ih : ∀ l : SF, snodes l < snodes F → sok l → slen l ≤ 9223372036854775807 → ∀ (w : World) (v : Value) (left : Int), SV w 0 l v → 0 ≤ left → left ≤ 1048576 → Calls Try.prog 22 #[v, .int .i64 left] w (Sz (ssize l) left w))
    (w : World) (v : Value) (left : Int) (hv : SV w 0 F v) (h0 : 0 ≤ left) (h1 : left ≤ 1048576) :
    Calls Try.prog 22 #[v, .int .i64 left] w (Sz (ssize F) left w) := by
  have Hb : Hid (ssize F = slen F + sbulk F) := ssize_bulk F
  have hMI : (slen F : Int) ≤ 9223372036854775807 := by omega
  obtain ⟨b, o, ao, cap, rfl, hao, _, hin⟩ := hv
  have Hih := Lib.hid ih
  clear ih
  by_cases hbig : left < (slen F : Int)
  · have hb' : left - (slen F : Int) < 0 := by omega
    go_enter Try.func22, Try.ntmps22
    go_wp2
    all_goals first
      | omega
      | (go_ret; exact Sz.less (by rw [Hb.out]; omega) (Below.refl _ _))
  · have hb' : ¬ left - (slen F : Int) < 0 := by omega
    obtain ⟨L0, hL0⟩ : ∃ L0 : Nat, left = (L0 : Int) := ⟨left.toNat, by omega⟩
    subst hL0
    go_enter Try.func22, Try.ntmps22
    go_wp2
    go_loopw [1, 5] (fun x i wr => ∃ (R : SF) (k L : Nat), i = .int .i64 k ∧ x = .int .i64 (L : Int) ∧ Hid (k + slen R = slen F ∧ snodes R ≤ snodes F ∧ sok R ∧ L + slen F + sbulk F = L0 + sbulk R ∧ L ≤ L0) ∧ SIn w 0 R b (o + k * 19) ∧ Below w.heap.size w wr) (fun _ i _ => slen F - (RowKit.intOf i).toNat)
    case atStart => exact ⟨F, 0, L0 - slen F, rfl, val_intA (by omega), ⟨by omega, Nat.le_refl _, hF, by omega, by omega⟩, by simpa using hin, Below.refl _ _⟩
    case round =>
      obtain ⟨R, k, L, rfl, rfl, hr, hinR, hbw⟩ := hrel
      obtain ⟨e1, e2, e3, e4, e5⟩ := hr.out
      cases R with
      | nil =>
        have hk : ¬ (k : Int) < (slen F : Int) := by simp only [slen] at e1; omega
        simp only [sbulk] at e4
        go_wp2
        go_ret
        exact Sz.more (by rw [Hb.out]; omega) (by rw [Hb.out]; omega) hbw
      | node p q h l r =>
        have hlt : (k : Int) < (slen F : Int) := by simp only [slen] at e1; omega
        rcases hao with rfl | hnil
        · obtain ⟨hsc, hinr⟩ := SIn_node.1 (SIn_later hbw _ _ _ hinR)
          obtain ⟨v1, v2, v3, v4, u, hu, hul, hrg⟩ := hsc.range
          have Hrg := Lib.hid hrg
          have hinr0 := (SIn_node.1 hinR).2
          obtain ⟨f1, k1, k2, k3, k4, f2, f3, f4⟩ := e3
          simp only [snodes] at e2
          have Hl := Lib.hid (fun w v left => Hih.out l (by omega) f3 f2 w v left)
          have hL0 : (0 : Int) ≤ (L : Int) := by omega
          have hL1 : (L : Int) ≤ 1048576 := by omega
          have He : Hid (L + slen F + sbulk F = L0 + (hsize h + ssize l + sbulk r) ∧ snodes r ≤ snodes F ∧ sok r ∧ k + (slen r + 1) = slen F ∧ L ≤ L0) := ⟨e4, by omega, f4, e1, e5⟩
          clear hr hinR e1 e2 e4 e5 hinr hin hsc hrg
          obtain ⟨N, HN⟩ : ∃ N : Nat, Hid (hsize h + ssize l = N) := ⟨_, rfl⟩
          go_wp2_with (refine wpList_load_mid rfl 52 _ rfl b (o + k * 19) rfl _ _ Hrg.out Try.underlying52 rfl sizeLS ?_)
          refine (szStmt_of h l f1 k1 k2 k3 k4 Hl.out _ v1 v2 v3 v4 u (L : Int) hu hul hL0 hL1).mono ?_
          rw [HN.out]
          rintro e w1 ⟨rfl, hb1⟩
          have hbw1 := hbw.trans (hb1.mono hbw.size)
          have HL := Lib.hid hL1
          clear hb1 hbw Hrg hu hul k1 k2 k3 k4 f1 f2 f3 f4 Hl hL1
          by_cases hd : (L : Int) < (N : Int)
          · rw [if_pos hd]
            as_aux_lemma =>
            go_wp2
            go_ret
            refine Sz.less ?_ hbw1
            rw [Hb.out]; have := He.out.1; have := HN.out; omega
          · have hnn : ¬ (L : Int) - (N : Int) < 0 := by omega
            rw [if_neg (by omega)]
            obtain ⟨L', hL', HL'⟩ : ∃ L' : Nat, (L : Int) - (N : Int) = (L' : Int) ∧ Hid (L' + N = L) := ⟨L - N, by omega, (by show L - N + N = L; omega)⟩
            rw [hL'] at hnn ⊢
            clear hL' hd
            as_aux_lemma =>
            go_wp2
            go_roundw
            case rel =>
              refine ⟨r, k + 1, L', by go_num, rfl, ?_, by rw [show o + (k + 1) * 19 = o + k * 19 + 19 by omega]; exact hinr0, hbw1⟩
              obtain ⟨g1, g2, g3, g4, g5⟩ := He.out
              have := HL'.out; have := HN.out
              exact ⟨by omega, g2, g3, by omega, by omega⟩
            case measure => simp [RowKit.intOf]; omega
        · subst hnil; simp only [slen] at e1; omega
theorem szStmtS_all : ∀ (n : Nat) (F : SF), snodes F < n → sok F → slen F ≤ 9223372036854775807 → ∀ (w : World) (v : Value) (left : Int), SV w 0 F v → 0 ≤ left → left ≤ 1048576 → Calls Try.prog 22 #[v, .int .i64 left] w (Sz (ssize F) left w)
  | 0, _, h, _, _, _, _, _, _, _, _ => absurd h (by omega)
  | n + 1, F, h, hF, hM, w, v, left, hv, h0, h1 => szStmtS_step F hF hM (fun l hl hk hm w v left a b c => szStmtS_all n l (by omega) hk hm w v left a b c) w v left hv h0 h1
theorem szStmtS_is (F : SF) (hF : sok F) (hM : slen F ≤ 9223372036854775807) (w : World) (v : Value) (left : Int) (hv : SV w 0 F v) (h0 : 0 ≤ left) (h1 : left ≤ 1048576) :
    Calls Try.prog 22 #[v, .int .i64 left] w (Sz (ssize F) left w) := szStmtS_all _ F (Nat.lt_succ_self _) hF hM w v left hv h0 h1
end Go.Proofs.Ythokildkedlkfaa
