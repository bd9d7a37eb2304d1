/-
  The walk of laws.FnLex: signs that are read of a drawn text come back of their own text.
-/
import Derived.Test.YtoogikibmdjpiaaDoorTextLaw
import Derived.Test.YtoogikibmdjpiaaDoorTokDraw
namespace Go.Proofs.YtoogikibmdjpiaaDoor
open Go.RowKit Go.Lib
set_option linter.unusedSimpArgs false

set_option maxHeartbeats 2000000 in
theorem sameToks_same (ts : List T) (hlen : ts.length ≤ 100000000) (va vb : Value) (w : World) (ha : Row w va ts) (hb : Row w vb ts) :
    Calls Tryd.prog 12 #[va, vb] w fun e w' => e = .returned (.bool true) ∧ Below w.heap.size w w' := by
  obtain ⟨ao, ca, rfl, ha⟩ := ha
  obtain ⟨bo, cb, rfl, hb⟩ := hb
  go_enter Tryd.func12, Tryd.ntmps12
  go_wp2
  go_loopw [5] (fun i wr => ∃ k : Nat, k ≤ ts.length ∧ i = .int .i64 k ∧ Below w.heap.size w wr) (fun i _ => ts.length - (RowKit.intOf i).toNat)
  case atStart => exact ⟨0, by omega, rfl, Below.refl _ _⟩
  case round =>
    obtain ⟨k, hk, rfl, hbw⟩ := hrel
    by_cases hlt : k < ts.length
    · obtain ⟨t, ht⟩ : ∃ t, ts[k]? = some t := ⟨ts[k], List.getElem?_eq_getElem hlt⟩
      rcases ha with ha | ⟨ga, rfl, gla, hca⟩
      · subst ha; simp at hlt
      rcases hb with hb | ⟨gb, rfl, glb, hcb⟩
      · subst hb; simp at hlt
      obtain ⟨a0, a1, a2⟩ := hca k t ht
      obtain ⟨b0, b1, b2⟩ := hcb k t ht
      have A0 := (hbw.cell (p := ⟨ga, k * 3, Option.none⟩) gla).trans a0
      have A1 := (hbw.cell (p := ⟨ga, k * 3 + 1, Option.none⟩) gla).trans a1
      have A2 := (hbw.cell (p := ⟨ga, k * 3 + 2, Option.none⟩) gla).trans a2
      have B0 := (hbw.cell (p := ⟨gb, k * 3, Option.none⟩) glb).trans b0
      have B1 := (hbw.cell (p := ⟨gb, k * 3 + 1, Option.none⟩) glb).trans b1
      have B2 := (hbw.cell (p := ⟨gb, k * 3 + 2, Option.none⟩) glb).trans b2
      have hltI : (k : Int) < (ts.length : Int) := by omega
      clear a0 a1 a2 b0 b1 b2 hca hcb ht
      go_wp2
      go_quiet (fail)
      go_wp2
      go_roundw
      case rel => exact ⟨k + 1, by omega, by go_num, ⟨hbw.os, hbw.tape, hbw.output, hbw.size, hbw.block⟩⟩
      case measure => simp [RowKit.intOf]; omega
    · go_wp2
      go_ret
      exact ⟨rfl, hbw⟩
theorem kept_len {p : List UInt8} (h : p ∈ keptL) : p.length ≤ 6 := by
  simp only [keptL, List.mem_cons, List.not_mem_nil, or_false] at h
  rcases h with rfl | rfl | rfl | rfl | rfl | rfl <;> decide
theorem good_small {t : T} (h : Good t) : Fits t ∧ t.s.length ≤ 6 := by
  obtain ⟨k, p, hk, _, _, hg, ht⟩ := h
  unfold tok at ht
  split at ht
  · split at ht
    · rename_i hm; injection ht with ht; subst ht; exact ⟨⟨by simp, by simp⟩, kept_len hm⟩
    · split at ht
      · rename_i h6; injection ht with ht; subst ht; exact ⟨⟨by simp, by simp⟩, h6⟩
      · cases ht
  · split at ht
    · split at ht
      · rename_i n hn
        split at ht
        · rename_i h9; injection ht with ht; subst ht
          exact ⟨⟨show (-9223372036854775808 : Int) ≤ (n : Int) by omega, show (n : Int) ≤ 9223372036854775807 by omega⟩, by simp⟩
        · cases ht
      · cases ht
    · split at ht
      · rename_i h3; injection ht with ht; subst ht
        refine ⟨⟨by simp, by simp⟩, ?_⟩
        subst h3
        rcases hg with hg | hg
        · cases hg
        · show p.length ≤ 6; omega
      · cases ht
theorem bytes_small : ∀ (ts : List T), (∀ t ∈ ts, t.s.length ≤ 6) → bytesOf ts ≤ 6 * ts.length
  | [], _ => by simp [bytesOf]
  | t :: ts, h => by
    have h1 := h t (by simp)
    have h2 := bytes_small ts (fun u hu => h u (by simp [hu]))
    simp only [bytesOf, List.length_cons]; omega
theorem lex_len6 (l : List UInt8) : ((lex l).getD []).length ≤ 600 := by
  cases h : lex l with
  | none => simp
  | some ts => exact (lex_good h).2
/-- What Lex answers is small: its numbers fit, and its text is short. -/
theorem lex_small (l : List UInt8) : (∀ t ∈ (lex l).getD [], Fits t) ∧ ((lex l).getD []).length ≤ 600 ∧ (text ((lex l).getD [])).length ≤ 100000 := by
  have hl := lex_len6 l
  have hg : ∀ t ∈ (lex l).getD [], Good t := by
    cases h : lex l with
    | none => intro t ht; cases ht
    | some ts => exact (lex_good h).1
  have h1 : ∀ t ∈ (lex l).getD [], Fits t := fun t ht => (good_small (hg t ht)).1
  have h2 := bytes_small _ (fun t ht => (good_small (hg t ht)).2)
  have h3 := text_len _ h1
  exact ⟨h1, hl, by omega⟩
theorem CodeIs.at {w w' : World} {a : Option Addr} {len : Nat} (h : CodeIs w.heap.size w a len) (hb : Below w.heap.size w w') : CodeIs w'.heap.size w' a len := (h.later hb).mono hb.size
set_option maxHeartbeats 4000000 in
set_option maxRecDepth 100000 in
theorem lex_walk (a : Option Addr) (len cap : Nat) (w : World) (hC : CodeIs w.heap.size w a len) (hE : Env w) :
    Calls Tryd.prog 3 #[.slice a len cap] w fun e w' => e = .returned (.bool true) ∧ Below w.heap.size w w' := by
  have HC := Lib.hid hC
  clear hC
  by_cases hbig : 1048576 < len
  · have Hd : Hid (decide ((1048576 : Int) < (len : Int)) = true) := decide_eq_true (by omega)
    clear hbig
    go_enter Tryd.func3, Tryd.ntmps3
    go_wp2_with fail
    refine (big_is a len cap w).mono ?_
    rw [Hd.out]
    rintro e w1 ⟨rfl, rfl⟩
    go_wp2
    go_ret
    exact ⟨rfl, Below.refl _ _⟩
  have Hd : Hid (decide ((1048576 : Int) < (len : Int)) = false) := decide_eq_false (by omega)
  have hlen : len ≤ 281474976710656 := by omega
  clear hbig
  go_enter Tryd.func3, Tryd.ntmps3
  go_wp2_with fail
  refine (big_is a len cap w).mono ?_
  rw [Hd.out]
  rintro e w1 ⟨rfl, rfl⟩
  go_wp2_with fail
  refine (DrawLex_is a len cap w hlen HC.out).mono ?_
  rintro e w1 ⟨s, rfl, c1⟩
  obtain ⟨o, ho⟩ : ∃ o, lex s.data.toList = o := ⟨_, rfl⟩
  have Ho := Lib.hid ho
  have hsm := lex_small s.data.toList
  rw [ho] at hsm
  obtain ⟨ts, hts⟩ : ∃ ts, o.getD [] = ts := ⟨_, rfl⟩
  rw [hts] at hsm
  have Hts := Lib.hid hts
  have Hsm := Lib.hid hsm
  obtain ⟨b, hb⟩ : ∃ b, o.isSome = b := ⟨_, rfl⟩
  have Hb := Lib.hid hb
  clear ho hsm hts hb
  go_wp2_with fail
  refine (impl_Lex s o Ho.out w1 (hE.later c1 (Nat.le_refl _))).mono ?_
  rintro e w2 ⟨⟨v1, rfl, own1⟩, b2⟩
  rw [Hts.out] at own1
  rw [Hb.out]
  have R1 := Row.of own1
  have c2 := c1.trans (b2.mono c1.size)
  clear own1 b2 c1
  go_wp2_with fail
  refine (spec_Lex s o Ho.out w2).mono ?_
  rintro e w3 ⟨⟨v2, rfl, own2⟩, b3⟩
  rw [Hts.out] at own2
  rw [Hb.out]
  have R2 := Row.of own2
  have R1 := R1.later b3
  have c3 := c2.trans (b3.mono c2.size)
  clear own2 b3 c2
  go_wp2_with fail
  refine (DrawNameOk_is a len cap w3 hlen (HC.out.at c3)).mono ?_
  rintro e w4 ⟨nm, rfl, hnm, b4⟩
  have R1 := R1.later b4
  have R2 := R2.later b4
  have c4 := c3.trans (b4.mono c3.size)
  clear b4 c3
  go_wp2_with fail
  refine (DrawTokText_is a len cap w4 hlen (HC.out.at c4)).mono ?_
  rintro e w5 ⟨x, v3, rfl, own3, b5⟩
  have Hx := Lib.hid (lex_small x.data.toList)
  obtain ⟨us, hus⟩ : ∃ us, (lex x.data.toList).getD [] = us := ⟨_, rfl⟩
  rw [hus] at own3 Hx
  have R3 := Row.of own3
  have R1 := R1.later b5
  have R2 := R2.later b5
  have c5 := c4.trans (b5.mono c4.size)
  obtain ⟨nb, hnb⟩ : ∃ nb, nameOk nm.data.toList = nb := ⟨_, rfl⟩
  have Hnb := Lib.hid hnb
  have hn1 : ts.length ≤ 100000000 := by have := Hsm.out.2.1; omega
  have hn3 : us.length ≤ 100000000 := by have := Hx.out.2.1; omega
  have ht1 : (text ts).length ≤ 1000000000000 := by have := Hsm.out.2.2; omega
  have ht3 : (text us).length ≤ 1000000000000 := by have := Hx.out.2.2; omega
  have heq : (text us == text us) = true := by simp
  have hnm' : nm.size ≤ 281474976710656 := by omega
  clear own3 b5 c4 hus hnb
  cases b
  · -- nothing was read
    have hO : o = Option.none := by cases o with | none => rfl | some _ => exact absurd Hb.out (by simp)
    have hts0 : ts = [] := by rw [← Hts.out, hO]; rfl
    subst hts0
    cases nb
    all_goals
      go_wp2_with fail
      refine (sameToks_same [] (by simp) v1 v2 w5 R1 R2).mono ?_
      rintro e w6 ⟨rfl, b6⟩
      have R1 := R1.later b6
      have R3 := R3.later b6
      have c6 := c5.trans (b6.mono c5.size)
      clear b6 c5
      go_wp2_with fail
      refine (impl_NameOk nm _ Hnb.out w6).mono ?_
      rintro e w7 ⟨rfl, b7⟩
      have R1 := R1.later b7
      have R3 := R3.later b7
      have c7 := c6.trans (b7.mono c6.size)
      clear b7 c6
      go_wp2_with fail
      refine (spec_NameOk nm _ Hnb.out hnm' w7).mono ?_
      rintro e w8 ⟨rfl, b8⟩
      have R1 := R1.later b8
      have R3 := R3.later b8
      have c8 := c7.trans (b8.mono c7.size)
      clear b8 c7
      go_wp2_with fail
      refine (impl_TokText us Hx.out.1 hn3 ht3 v3 w8 ((hE.later c8 (Nat.le_refl _)).tab) R3).mono ?_
      rintro e w9 ⟨rfl, b9⟩
      have R1 := R1.later b9
      have R3 := R3.later b9
      have c9 := c8.trans (b9.mono c8.size)
      clear b9 c8
      go_wp2_with fail
      refine (spec_TokText us Hx.out.1 hn3 ht3 v3 w9 R3).mono ?_
      rintro e w10 ⟨rfl, b10⟩
      have c10 := c9.trans (b10.mono c9.size)
      clear b10 c9
      obtain ⟨ao1, ca1, rfl, _⟩ := R1
      go_wp2
      go_ret
      exact ⟨rfl, c10⟩
  · have hO : o = some ts := by
      cases o with
      | none => exact absurd Hb.out (by simp)
      | some q => have := Hts.out; simp at this; rw [this]
    have hgood := lex_good (Ho.out.trans hO)
    have Hlt := Lib.hid (lex_text hgood.1 hgood.2)
    clear hgood
    cases nb
    all_goals
      go_wp2_with fail
      refine (sameToks_same ts hn1 v1 v2 w5 R1 R2).mono ?_
      rintro e w6 ⟨rfl, b6⟩
      have R1 := R1.later b6
      have R3 := R3.later b6
      have c6 := c5.trans (b6.mono c5.size)
      clear b6 c5
      go_wp2_with fail
      refine (impl_NameOk nm _ Hnb.out w6).mono ?_
      rintro e w7 ⟨rfl, b7⟩
      have R1 := R1.later b7
      have R3 := R3.later b7
      have c7 := c6.trans (b7.mono c6.size)
      clear b7 c6
      go_wp2_with fail
      refine (spec_NameOk nm _ Hnb.out hnm' w7).mono ?_
      rintro e w8 ⟨rfl, b8⟩
      have R1 := R1.later b8
      have R3 := R3.later b8
      have c8 := c7.trans (b8.mono c7.size)
      clear b8 c7
      go_wp2_with fail
      refine (impl_TokText us Hx.out.1 hn3 ht3 v3 w8 ((hE.later c8 (Nat.le_refl _)).tab) R3).mono ?_
      rintro e w9 ⟨rfl, b9⟩
      have R1 := R1.later b9
      have R3 := R3.later b9
      have c9 := c8.trans (b9.mono c8.size)
      clear b9 c8
      go_wp2_with fail
      refine (spec_TokText us Hx.out.1 hn3 ht3 v3 w9 R3).mono ?_
      rintro e w10 ⟨rfl, b10⟩
      have R1 := R1.later b10
      have c10 := c9.trans (b10.mono c9.size)
      clear b10 c9 R3
      go_wp2_with fail
      refine (impl_TokText ts Hsm.out.1 hn1 ht1 v1 w10 ((hE.later c10 (Nat.le_refl _)).tab) R1).mono ?_
      rintro e w11 ⟨rfl, b11⟩
      have R1 := R1.later b11
      have c11 := c10.trans (b11.mono c10.size)
      clear b11 c10
      go_wp2_with fail
      by_cases h3 : 3000 < (text ts).length
      · have h3' : (3000 : Int) < ((text ts).length : Int) := by omega
        have Hl : Hid (lex (⟨(text ts).toArray⟩ : ByteArray).data.toList = Option.none) := show lex (text ts).toArray.toList = Option.none by
          rw [List.toList_toArray, Hlt.out, if_pos h3]
        clear h3
        refine (impl_Lex _ _ Hl.out w11 (hE.later c11 (Nat.le_refl _))).mono ?_
        rintro e w12 ⟨⟨v4, rfl, own4⟩, b12⟩
        have c12 := c11.trans (b12.mono c11.size)
        clear own4 b12 c11 R1
        go_wp2
        go_ret
        exact ⟨rfl, c12⟩
      · have h3' : decide ((3000 : Int) < ((text ts).length : Int)) = false := decide_eq_false (by omega)
        have Hl : Hid (lex (⟨(text ts).toArray⟩ : ByteArray).data.toList = some ts) := show lex (text ts).toArray.toList = some ts by
          rw [List.toList_toArray, Hlt.out, if_neg h3]
        clear h3
        refine (impl_Lex _ _ Hl.out w11 (hE.later c11 (Nat.le_refl _))).mono ?_
        rintro e w12 ⟨⟨v4, rfl, own4⟩, b12⟩
        have R4 := Row.of own4
        have R1 := R1.later b12
        have c12 := c11.trans (b12.mono c11.size)
        clear own4 b12 c11
        go_wp2_with fail
        refine (sameToks_same ts hn1 v4 v1 w12 R4 R1).mono ?_
        rintro e w13 ⟨rfl, b13⟩
        have c13 := c12.trans (b13.mono c12.size)
        clear b13 c12 R4 R1
        go_wp2
        go_ret
        exact ⟨rfl, c13⟩
end Go.Proofs.YtoogikibmdjpiaaDoor
