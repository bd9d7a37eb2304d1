/-
  The walk of laws.FnExactTokText.
-/
import Derived.Test.YtoogikibmdjpiaaDoorTokArg
import Derived.Lib.ItoaLen
namespace Go.Proofs.YtoogikibmdjpiaaDoor
open Go.RowKit Go.Lib
set_option linter.unusedSimpArgs false

theorem text1_len (t : T) (h : Fits t) : (text1 t).length ≤ t.s.length + 21 := by
  unfold text1
  split
  · have := itoa_length_le t.n h.1 h.2; omega
  · omega
theorem textFrom_len : ∀ (ts : List T), (∀ t ∈ ts, Fits t) → (textFrom ts).length ≤ bytesOf ts + 22 * ts.length
  | [], _ => by simp [textFrom, bytesOf]
  | t :: ts, h => by
    have h1 := text1_len t (h t (by simp))
    have h2 := textFrom_len ts (fun u hu => h u (by simp [hu]))
    simp only [textFrom, bytesOf, List.length_cons, List.length_append]
    omega
theorem text_len (ts : List T) (h : ∀ t ∈ ts, Fits t) : (text ts).length ≤ bytesOf ts + 22 * ts.length := by
  cases ts with
  | nil => simp [text, bytesOf]
  | cons t ts =>
    have h1 := text1_len t (h t (by simp))
    have h2 := textFrom_len ts (fun u hu => h u (by simp [hu]))
    simp only [text, bytesOf, List.length_cons, List.length_append]
    omega
set_option maxHeartbeats 4000000 in
set_option maxRecDepth 100000 in
theorem exactTokText_walk (ts : List T) (hfit : ∀ t ∈ ts, Fits t) (hts : ∀ t ∈ ts, t.s.length ≤ 9223372036854775807) (v : Value) (w : World) (hE : Tab w) (hr : ARow w v ts) :
    Calls Tryd.prog 5 #[v] w fun e w' => e = .returned (.bool true) ∧ Below w.heap.size w w' := by
  have Hfit := Lib.hid hfit
  have Hts := Lib.hid hts
  clear hfit hts
  have Hr := Lib.hid hr
  clear hr
  go_enter Tryd.func5, Tryd.ntmps5
  go_wp2_with fail
  refine (szTokS_is ts Hts.out v _ Hr.out).mono ?_
  rintro e w1 ⟨r, rfl, r0, r1, hsz, b1⟩
  by_cases hneg : r < 0
  · clear hsz
    go_wp2
    go_ret
    exact ⟨rfl, b1⟩
  · have hs := hsz (by omega)
    have hlen : (text ts).length ≤ 1000000000000 := by have := text_len ts Hfit.out; omega
    have Hlen := Lib.hid hlen
    have hn1 : ts.length ≤ 1048576 := by omega
    have hn2 : ts.length ≤ 100000000 := by omega
    clear hsz hs hlen
    go_wp2_with fail
    refine (toTokS_is ts hn1 v _ (Hr.out.later b1)).mono ?_
    rintro e w2 ⟨v2, rfl, o2, b2⟩
    have c2 := b1.trans (b2.mono b1.size)
    have R2 := Row.of o2
    clear o2 b2 b1
    go_wp2_with fail
    refine (spec_TokText ts Hfit.out hn2 Hlen.out v2 _ R2).mono ?_
    rintro e w3 ⟨rfl, b3⟩
    have c3 := c2.trans (b3.mono c2.size)
    clear R2 b3 c2
    go_wp2_with fail
    refine (toTokS_is ts hn1 v _ (Hr.out.later c3)).mono ?_
    rintro e w4 ⟨v4, rfl, o4, b4⟩
    have c4 := c3.trans (b4.mono c3.size)
    have R4 := Row.of o4
    clear o4 b4 c3
    go_wp2_with fail
    refine (impl_TokText ts Hfit.out hn2 Hlen.out v4 _ (hE.later c4 (Nat.le_refl _)) R4).mono ?_
    rintro e w5 ⟨rfl, b5⟩
    have c5 := c4.trans (b5.mono c4.size)
    have R5 := R4.later b5
    clear R4 b5 c4
    have heq : ((text ts) == (text ts)) = true := by simp
    go_wp2_with fail
    refine (toTokS_is ts hn1 v _ (Hr.out.later c5)).mono ?_
    rintro e w6 ⟨v6, rfl, o6, b6⟩
    have c6 := c5.trans (b6.mono c5.size)
    have R6 := Row.of o6
    have R56 := R5.later b6
    clear o6 b6 c5 R5
    go_wp2_with fail
    refine (eqTokS_same ts (by omega) v4 v6 _ R56 R6).mono ?_
    rintro e w7 ⟨rfl, b7⟩
    have c7 := c6.trans (b7.mono c6.size)
    clear R6 R56 b7 c6
    go_wp2
    go_ret
    exact ⟨rfl, c7⟩
end Go.Proofs.YtoogikibmdjpiaaDoor
