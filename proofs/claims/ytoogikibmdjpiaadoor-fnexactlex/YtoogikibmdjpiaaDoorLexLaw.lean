/-
  The walk of laws.FnExactLex.
-/
import Derived.Test.YtoogikibmdjpiaaDoorTokSpecLex
import Derived.Test.YtoogikibmdjpiaaDoorTokMark
namespace Go.Proofs.YtoogikibmdjpiaaDoor
open Go.RowKit Go.Lib
set_option linter.unusedSimpArgs false

theorem lex_len (l : List UInt8) : ((lex l).getD []).length ≤ 600 := by
  cases h : lex l with
  | none => simp
  | some ts => exact (lex_good h).2
theorem grown_lift {w w1 w2 : World} {B n : Nat} {v : Value} {xs : List Value} (hown : w1.ownsRow B 47 3 v n xs) (hB : B ≤ w1.heap.size) (hb : Below B w w1) (hg : w1.grownBy w2 v.ownBlock) : Below B w w2 :=
  hb.grown hg hB (fun k hk => (hown.lt k hk).1)
set_option maxHeartbeats 4000000 in
set_option maxRecDepth 100000 in
theorem exactLex_walk (s : ByteArray) (w : World) (hE : Env w) :
    Calls Tryd.prog 4 #[.string s] w fun e w' => e = .returned (.bool true) ∧ Below w.heap.size w w' := by
  by_cases hg : 1048576 < s.size
  · have hg' : (1048576 : Int) < (s.size : Int) := by omega
    clear hg hE
    go_enter Tryd.func4, Tryd.ntmps4
    go_wp2
    go_ret
    exact ⟨rfl, Below.refl _ _⟩
  · have hg' : ¬ (1048576 : Int) < (s.size : Int) := by omega
    obtain ⟨o, ho⟩ : ∃ o, lex s.data.toList = o := ⟨_, rfl⟩
    have hlen : (o.getD []).length ≤ 600 := by rw [← ho]; exact lex_len _
    have Ho := Lib.hid ho
    obtain ⟨ts, hts⟩ : ∃ ts, o.getD [] = ts := ⟨_, rfl⟩
    obtain ⟨b, hb⟩ : ∃ b, o.isSome = b := ⟨_, rfl⟩
    rw [hts] at hlen
    have Hts := Lib.hid hts
    have Hb := Lib.hid hb
    clear hg ho hts hb
    go_enter Tryd.func4, Tryd.ntmps4
    go_wp2_with fail
    refine (spec_Lex s o Ho.out w).mono ?_
    rintro e w1 ⟨⟨v0, rfl, own0⟩, b1⟩
    rw [Hts.out] at own0
    rw [Hb.out]
    have R0 := Row.of own0
    have E1 := hE.later b1 (Nat.le_refl _)
    clear own0
    go_wp2_with fail
    refine (impl_Lex s o Ho.out w1 E1).mono ?_
    rintro e w2 ⟨⟨v1, rfl, own1⟩, b2⟩
    rw [Hts.out] at own1
    rw [Hb.out]
    cases b
    all_goals
      go_wp2_with fail
      refine (eqTokS_same ts (by omega) v1 v0 w2 (Row.of own1) (R0.later b2)).mono ?_
      rintro e w3 ⟨rfl, b3⟩
      have own3 := own_below own1 b3
      have c3 := b2.trans (b3.mono b2.size)
      clear own1 b2 b3
      go_wp2_with fail
      refine (markTokS_is ts 1 (by omega) (by omega) _ v1 w3 own3).mono ?_
      rintro e w4 ⟨rfl, own4, g4⟩
      have c4 := grown_lift own3 c3.size c3 g4
      clear own3 c3 g4
      go_wp2_with fail
      refine (heldTokS_is ts.length 1 (by omega) (by omega) v1 w4 (Row.of (ts := marksFrom 1 ts.length) (by rw [marksFrom_length]; exact own4))).mono ?_
      rintro e w5 ⟨rfl, b5⟩
      have own5 := own_below own4 b5
      have c5 := c4.trans (b5.mono c4.size)
      clear own4 b5 c4
      have E5 := E1.later c5 (Nat.le_refl _)
      go_wp2_with fail
      refine (impl_Lex s o Ho.out w5 E5).mono ?_
      rintro e w6 ⟨⟨v2, rfl, own6⟩, b6⟩
      rw [Hts.out] at own6
      rw [Hb.out]
      have own5' := own_below own5 b6
      have c6 := c5.trans (b6.mono c5.size)
      clear own5 b6 c5 E5
      go_wp2_with fail
      refine (eqTokS_same ts (by omega) v2 v0 w6 (Row.of own6) (R0.later c6)).mono ?_
      rintro e w7 ⟨rfl, b7⟩
      have own7 := own_below own5' b7
      have c7 := c6.trans (b7.mono c6.size)
      clear own5' own6 b7 c6
      go_wp2_with fail
      refine (heldTokS_is ts.length 1 (by omega) (by omega) v1 w7 (Row.of (ts := marksFrom 1 ts.length) (by rw [marksFrom_length]; exact own7))).mono ?_
      rintro e w8 ⟨rfl, b8⟩
      have c8 := c7.trans (b8.mono c7.size)
      clear own7 b8 c7 R0 E1
      go_wp2
      go_ret
      exact ⟨rfl, b1.trans (c8.mono b1.size)⟩
end Go.Proofs.YtoogikibmdjpiaaDoor
