/-
  The contract of the specification's l4Names, and what its names are.
-/
import Derived.Test.YthokildkedlkfaaNamePut
import Derived.Test.YthokildkedlkfaaNameKind
namespace Go.Proofs.Ythokildkedlkfaa
open Go.RowKit Go.Lib
set_option linter.unusedSimpArgs false
set_option linter.unusedVariables false

theorem nmS_names (k : Int) : ∀ (F : SF) (out : List ByteArray), Asc out → Asc (nmS k F out) ∧ ∀ s, s ∈ nmS k F out ↔ (s ∈ out ∨ ∃ a ∈ sall F, ofKind k a = some s)
  | .nil, out, h => ⟨h, fun s => by simp [nmS, sall]⟩
  | .node p q h l r, out, ho => by
    have hput : Asc (if h.k = k then putR h.s false out else out) ∧ ∀ s, s ∈ (if h.k = k then putR h.s false out else out) ↔ (s ∈ out ∨ ofKind k (h, l) = some s) := by
      by_cases hk : h.k = k
      · rw [if_pos hk]
        obtain ⟨i1, i2⟩ := asc_put h.s out ho
        refine ⟨i1, fun s => ?_⟩
        rw [i2 s]
        simp only [ofKind, if_pos hk, Option.some.injEq]
        constructor
        · rintro (e | e)
          · exact .inr e.symm
          · exact .inl e
        · rintro (e | e)
          · exact .inr e
          · exact .inl e.symm
      · rw [if_neg hk]
        refine ⟨ho, fun s => ?_⟩
        simp [ofKind, if_neg hk]
    obtain ⟨l1, l2⟩ := nmS_names k l _ hput.1
    obtain ⟨r1, r2⟩ := nmS_names k r _ l1
    refine ⟨r1, fun s => ?_⟩
    show s ∈ nmS k r (nmS k l _) ↔ _
    rw [r2 s, l2 s, hput.2 s]
    simp only [sall, List.mem_cons, List.mem_append]
    constructor
    · rintro (((e | e) | ⟨a, h1, h2⟩) | ⟨a, h1, h2⟩)
      · exact .inl e
      · exact .inr ⟨_, .inl rfl, e⟩
      · exact .inr ⟨a, .inr (.inl h1), h2⟩
      · exact .inr ⟨a, .inr (.inr h1), h2⟩
    · rintro (e | ⟨a, (rfl | h1 | h1), h2⟩)
      · exact .inl (.inl (.inl e))
      · exact .inl (.inl (.inr h2))
      · exact .inl (.inr ⟨a, h1, h2⟩)
      · exact .inr ⟨a, h1, h2⟩
theorem nmS_len (k : Int) : ∀ (F : SF) (out : List ByteArray), (nmS k F out).length ≤ out.length + snodes F
  | .nil, out => by simp [nmS, snodes]
  | .node p q h l r, out => by
    have h0 : (if h.k = k then putR h.s false out else out).length ≤ out.length + 1 := by split; exact putR_len _ _ _; omega
    have h1 := nmS_len k l (if h.k = k then putR h.s false out else out)
    have h2 := nmS_len k r (nmS k l (if h.k = k then putR h.s false out else out))
    simp only [nmS, snodes]; omega
set_option maxHeartbeats 2000000 in
set_option maxRecDepth 100000 in
theorem l4Names_step (k : Int) (F : SF)
    (ih : ∀ l : SF, snodes l < snodes F → ∀ (out : List ByteArray) (w : World) (vo v : Value), out.length + snodes l ≤ 10000000 → TV w 0 vo out → SV w 0 l v → Calls Try.prog 64 #[vo, v, .int .i64 k] w fun e w' => ∃ v', e = .returned v' ∧ TV w' 0 v' (nmS k l out) ∧ Below w.heap.size w w')
    (out : List ByteArray) (w : World) (vo v : Value) (hN : out.length + snodes F ≤ 10000000) (ho : TV w 0 vo out) (hv : SV w 0 F v) :
    Calls Try.prog 64 #[vo, v, .int .i64 k] w fun e w' => ∃ v', e = .returned v' ∧ TV w' 0 v' (nmS k F out) ∧ Below w.heap.size w w' := by
  obtain ⟨b, o, ao, cap, rfl, hao, _, hin⟩ := hv
  have Hih := Lib.hid ih
  have hlenF := slen_le F
  clear ih
  go_enter Try.func64, Try.ntmps64
  go_wp2
  go_loopw [0, 7] (fun x i wr => ∃ (R : SF) (j : Nat) (os : List ByteArray), i = .int .i64 (j : Int) ∧ TV wr 0 x os ∧ Hid (j + slen R = slen F ∧ os.length + snodes R ≤ out.length + snodes F ∧ snodes R ≤ snodes F ∧ nmS k R os = nmS k F out ∧ SIn w 0 R b (o + j * 19)) ∧ Below w.heap.size w wr) (fun _ i _ => slen F - (RowKit.intOf i).toNat)
  case atStart => exact ⟨F, 0, out, rfl, ho, ⟨by omega, by omega, by omega, rfl, by simpa using hin⟩, Below.refl _ _⟩
  case round =>
    obtain ⟨R, j, os, rfl, hos, hr, hbw⟩ := hrel
    obtain ⟨e1, e2, e3, e4, e5⟩ := hr.out
    obtain ⟨oa, oc, rfl⟩ := hos.shape
    clear ho
    cases R with
    | nil =>
      have hk : ¬ (j : Int) < (slen F : Int) := by simp only [slen] at e1; omega
      have E := Lib.hid (show os = nmS k F out from e4)
      clear hr e4
      go_wp2
      go_ret
      exact ⟨_, rfl, by rw [← E.out]; exact hos, hbw⟩
    | node p q h l r =>
      have hlt : (j : Int) < (slen F : Int) := by simp only [slen] at e1; omega
      have hne : ¬ F = .nil := by intro e; subst e; simp only [slen] at e1; omega
      obtain rfl : ao = some ⟨b, o, Option.none⟩ := hao.resolve_right hne
      have hsc0 := (SIn_node.1 e5).1
      have hr0 := (SIn_node.1 e5).2
      obtain ⟨c0, c1, _, _, _, _, u, c18, hu⟩ := SC.later hsc0 hbw
      simp only [snodes] at e2 e3
      have Hl := Lib.hid (Hih.out l (by omega))
      have HU := Lib.hid (And.intro hu hos)
      have Hsc := Lib.hid hsc0
      have He : Hid (j + 1 + slen r = slen F ∧ snodes r ≤ snodes F ∧ SIn w 0 r b (o + (j + 1) * 19) ∧ os.length + (snodes l + snodes r + 1) ≤ out.length + snodes F ∧ nmS k r (nmS k l (if h.k = k then putR h.s false os else os)) = nmS k F out) :=
        ⟨by simp only [slen] at e1; omega, by omega, by rw [show o + (j + 1) * 19 = o + j * 19 + 19 by omega]; exact hr0, by omega, e4⟩
      clear hr e1 e2 e3 e4 e5 hin hne hao hu hos hr0 hsc0
      by_cases hk : h.k = k
      · have Hk : Hid ((if h.k = k then putR h.s false os else os) = putR h.s false os) := if_pos hk
        subst hk
        go_wp2_with fail
        refine (l4Put_is os (by have := He.out; omega) h.s _ _ HU.out.2).mono ?_
        rintro e w1 ⟨v1, rfl, hv1, hb1⟩
        have hbw1 := hbw.trans (hb1.mono hbw.size)
        obtain ⟨_, _, _, _, _, _, u', c18', hu'⟩ := SC.later Hsc.out hbw1
        have hl1 := putR_len h.s false os
        have HV1 := Lib.hid (And.intro hv1.low hu')
        obtain ⟨x1, y1, rfl⟩ := hv1.shape
        clear hv1 hb1 hu' c0 c1 c18 hbw
        go_wp2_with fail
        refine (Hl.out (putR h.s false os) _ _ _ (by have := He.out; omega) HV1.out.1 HV1.out.2).mono ?_
        rintro e w2 ⟨v2, rfl, hv2, hb2⟩
        have hbw2 := hbw1.trans (hb2.mono hbw1.size)
        have hl2 := nmS_len h.k l (putR h.s false os)
        have HV2 := Lib.hid hv2
        clear hv2 hb2 c18' hbw1
        go_wp2
        go_roundw
        case rel =>
          have E := He.out
          rw [Hk.out] at E
          exact ⟨r, j + 1, nmS h.k l (putR h.s false os), by go_num, HV2.out, ⟨E.1, by omega, E.2.1, E.2.2.2.2, E.2.2.1⟩, hbw2⟩
        case measure => simp [RowKit.intOf]; omega
      · have Hk : Hid ((if h.k = k then putR h.s false os else os) = os) := if_neg hk
        have hne := int_ne hk
        go_wp2_with fail
        refine (Hl.out os _ _ _ (by have := He.out; omega) HU.out.2 HU.out.1).mono ?_
        rintro e w2 ⟨v2, rfl, hv2, hb2⟩
        have hbw2 := hbw.trans (hb2.mono hbw.size)
        have hl2 := nmS_len k l os
        have HV2 := Lib.hid hv2
        clear hv2 hb2 c0 c1 c18 hbw
        go_wp2
        go_roundw
        case rel =>
          have E := He.out
          rw [Hk.out] at E
          exact ⟨r, j + 1, nmS k l os, by go_num, HV2.out, ⟨E.1, by omega, E.2.1, E.2.2.2.2, E.2.2.1⟩, hbw2⟩
        case measure => simp [RowKit.intOf]; omega
theorem l4Names_all (k : Int) : ∀ (n : Nat) (F : SF), snodes F < n → ∀ (out : List ByteArray) (w : World) (vo v : Value), out.length + snodes F ≤ 10000000 → TV w 0 vo out → SV w 0 F v → Calls Try.prog 64 #[vo, v, .int .i64 k] w fun e w' => ∃ v', e = .returned v' ∧ TV w' 0 v' (nmS k F out) ∧ Below w.heap.size w w'
  | 0, _, h, _, _, _, _, _, _, _ => absurd h (by omega)
  | n + 1, F, h, out, w, vo, v, hN, ho, hv => l4Names_step k F (fun l hl out w vo v hN ho hv => l4Names_all k n l (by omega) out w vo v hN ho hv) out w vo v hN ho hv
theorem l4Names_is (k : Int) (F : SF) (out : List ByteArray) (w : World) (vo v : Value) (hN : out.length + snodes F ≤ 10000000) (ho : TV w 0 vo out) (hv : SV w 0 F v) :
    Calls Try.prog 64 #[vo, v, .int .i64 k] w fun e w' => ∃ v', e = .returned v' ∧ TV w' 0 v' (nmS k F out) ∧ Below w.heap.size w w' := l4Names_all k _ F (Nat.lt_succ_self _) out w vo v hN ho hv
end Go.Proofs.Ythokildkedlkfaa
