/-
  Counts of the landed code.
-/
import Derived.Test.YthokildkedlkfaaCntSpec
import Derived.Test.YthokildkedlkfaaNameFour
import Derived.Test.YthokildkedlkfaaAstCount
import Derived.Deep.QuietTactic
import Derived.BigQuiet
namespace Go.Proofs.Ythokildkedlkfaa
open Go.RowKit Go.Lib
set_option linter.unusedSimpArgs false
set_option linter.unusedVariables false

theorem retbC {a b : Bool} (h : a = b) : Ending.returned (.bool a) = .returned (.bool b) := by rw [h]
/-- A variable of its own that holds a text. -/
abbrev TxtAt (w : World) (b : Nat) (s : ByteArray) : Prop := w.heap[b]? = some (.cells #[.string s] 9 (0, 0))
set_option maxHeartbeats 1000000 in
theorem isVar_is (x : X) (v : Value) (s : ByteArray) (w : World) :
    Calls Try.prog 43 #[xaggC x v, .string s] w fun e w' => e = .returned (.bool (hitA s (x.h, x.l))) ∧ Below w.heap.size w w' := by
  obtain ⟨⟨xk, xn, xs⟩, xl⟩ := x
  have B := Lib.hid (alloc_below w (.cells #[.int .i64 xk, .int .i64 xn, .string xs, v] 26))
  by_cases hk : xk = 2
  · subst hk
    by_cases hs : xs = s
    · subst hs
      go_enter Try.func43, Try.ntmps43
      go_wp2
      go_ret
      exact ⟨retbC (by simp [hitA]), B.out⟩
    · have hsb := str_ne hs
      have H : Hid (hitA s (({ k := 2, n := xn, s := xs } : EH), xl) = false) := show _ = _ by simp [hitA, hs]
      go_enter Try.func43, Try.ntmps43
      go_wp2
      go_ret
      exact ⟨retbC (by rw [H.out]), B.out⟩
  · have hkb := int_ne hk
    have H : Hid (hitA s (({ k := xk, n := xn, s := xs } : EH), xl) = false) := show _ = _ by simp [hitA, hk]
    go_enter Try.func43, Try.ntmps43
    go_wp2
    go_ret
    exact ⟨retbC (by rw [H.out]), B.out⟩
theorem num_later {w w' : World} {b : Nat} {c : Int} (h : NumAt w b c) (hb : Below w.heap.size w w') : NumAt w' b c := (hb.block b (lt_of_block h)).trans h
theorem txt_later {w w' : World} {b : Nat} {s : ByteArray} (h : TxtAt w b s) (hb : Below w.heap.size w w') : TxtAt w' b s := (hb.block b (lt_of_block h)).trans h
theorem gap_set {w wb : World} {cb : Nat} {c d : Int} (hw : Below w.heap.size w wb) (hc : NumAt wb cb c) (hlt : cb < w.heap.size) : NumAt (wb.setCell ⟨cb, 0, Option.none⟩ (.int .i64 d)) cb d ∧ Gap cb (cb + 1) w (wb.setCell ⟨cb, 0, Option.none⟩ (.int .i64 d)) := by
  refine ⟨one_setCell hc, hw.os, hw.tape, hw.output, by simpa using hw.size, fun k hk hk2 => ?_⟩
  rw [Below.heap_setCell _ _ _ _ (show k ≠ cb by omega)]
  exact hw.block k hk
set_option maxHeartbeats 2000000 in
set_option maxRecDepth 100000 in
theorem cnt11_is (x : X) (v : Value) (s : ByteArray) (w : World) (nb cb : Nat) (c : Nat) (hn : TxtAt w nb s) (hc : NumAt w cb (c : Int)) (hs : c < 1000000000000000) :
    Calls Try.prog 42 #[xaggC x v, .pointer (some ⟨nb, 0, Option.none⟩), .pointer (some ⟨cb, 0, Option.none⟩)] w fun e w' => e = .returned (.tuple #[]) ∧ NumAt w' cb (((if hitA s (x.h, x.l) = true then 1 else 0) + c : Nat) : Int) ∧ Gap cb (cb + 1) w w' := by
  have hb := alloc_below w (.cells #[.int .i64 x.h.k, .int .i64 x.h.n, .string x.h.s, v] 26)
  have hcl := lt_of_block hc
  have c0 := cell_of_one (txt_later hn hb)
  have HC := Lib.hid (And.intro hc hb)
  have HV := Lib.hid (isVar_is x v s)
  obtain ⟨hz, hhz⟩ : ∃ b, hitA s (x.h, x.l) = b := ⟨_, rfl⟩
  rw [hhz] at HV ⊢
  obtain ⟨cc, hcc⟩ : ∃ cc : Nat, (if hz = true then 1 else 0) + c = cc := ⟨_, rfl⟩
  rw [hcc]
  have HCC := Lib.hid hcc
  clear hcc
  have hsI : (c : Int) + 1 ≤ 1000000000000000 := by omega
  clear hn hc hb hhz hs
  go_enter Try.func42, Try.ntmps42
  go_wp2_with fail
  refine (HV.out _).mono ?_
  rintro e w2 ⟨rfl, hb2⟩
  have h2 := num_later (num_later HC.out.1 HC.out.2) hb2
  have B2 := Lib.hid (below_alloc hb2)
  have c1 := cell_of_one h2
  have c2 := free_of_one h2
  have H2 := Lib.hid h2
  clear hb2 h2 c0
  cases hz with
  | true =>
    have G := Lib.hid (gap_set (d := (c : Int) + 1) B2.out H2.out hcl)
    have hc1 : Hid ((cc : Int) = (c : Int) + 1) := show _ = _ by rw [← HCC.out, if_pos rfl]; omega
    clear HCC
    go_wp2
    go_end0
    exact ⟨rfl, by rw [show (cc : Int) = (c : Int) + 1 from hc1.out]; exact G.out.1, G.out.2⟩
  | false =>
    have G := Lib.hid (Gap.of cb (cb + 1) B2.out)
    have hc1 : Hid ((cc : Int) = (c : Int)) := show _ = _ by rw [← HCC.out, if_neg (by simp)]; omega
    clear HCC c1 c2 hsI
    go_wp2
    go_end0
    exact ⟨rfl, by rw [show (cc : Int) = (c : Int) from hc1.out]; exact H2.out, G.out⟩
end Go.Proofs.Ythokildkedlkfaa
