/-
  The contracts of the specification's l3Parts, l1In, l3Here.
-/
import Derived.Test.YtkilmefpaojkfaaGreatAstExpOk
import Derived.BigQuiet
import Derived.Deep.QuietTactic
namespace Go.Proofs.YtkilmefpaojkfaaGreat
open Go.RowKit Go.Lib
set_option linter.unusedSimpArgs false
set_option linter.unusedVariables false

def parts (k : Int) : Int := if k = 1 ∨ k = 2 then 0 else if k = 3 then 1 else if 4 ≤ k ∧ k ≤ 8 then 2 else -1
theorem l3Parts_is (k r : Int) (hr : parts k = r) (w : World) : Calls Tryz.prog 149 #[.int .i64 k] w fun e w' => e = .returned (.int .i64 r) ∧ w = w' := by
  subst hr
  by_cases hk : 1 ≤ k ∧ k ≤ 8
  · obtain rfl | rfl | rfl | rfl | rfl | rfl | rfl | rfl : k = 1 ∨ k = 2 ∨ k = 3 ∨ k = 4 ∨ k = 5 ∨ k = 6 ∨ k = 7 ∨ k = 8 := by omega
    all_goals
      clear hk
      go_enter Tryz.func149, Tryz.ntmps149
      go_wp2
      go_ret
      exact ⟨rfl, rfl⟩
  · have hf : Hid (parts k = -1) := show parts k = -1 by
      unfold parts
      rw [if_neg (by omega), if_neg (by omega), if_neg (by omega)]
    have e1 : (k == 1) = false := int_ne (by omega)
    have e2 : (k == 2) = false := int_ne (by omega)
    have e3 : (k == 3) = false := int_ne (by omega)
    have e4 : (k == 4) = false := int_ne (by omega)
    have e5 : (k == 5) = false := int_ne (by omega)
    have e6 : (k == 6) = false := int_ne (by omega)
    have e7 : (k == 7) = false := int_ne (by omega)
    have e8 : (k == 8) = false := int_ne (by omega)
    clear hk
    go_enter Tryz.func149, Tryz.ntmps149
    go_wp2
    go_ret
    exact retI (by rw [hf.out]) rfl
theorem l1In_is (n a b : Int) (w : World) : Calls Tryz.prog 66 #[.int .i64 n, .int .i64 a, .int .i64 b] w fun e w' => e = .returned (.bool (decide (a ≤ n) && decide (n ≤ b))) ∧ w = w' := by
  by_cases h1 : a ≤ n
  · by_cases h2 : n ≤ b
    · go_enter Tryz.func66, Tryz.ntmps66
      go_wp2
      go_ret
      exact retB (by rw [decide_eq_true h1, decide_eq_true h2]; rfl) rfl
    · go_enter Tryz.func66, Tryz.ntmps66
      go_wp2
      go_ret
      exact retB (by first | (rw [decide_eq_false (by omega)]) | (simp; omega)) rfl
  · go_enter Tryz.func66, Tryz.ntmps66
    go_wp2
    go_ret
    exact retB (by rw [decide_eq_false (by omega)]; rfl) rfl
theorem belowN {B : Nat} {w w' : World} (h : Below B w w') (n : Nat) : Below B w (w'.drewN n) := by
  induction n with
  | zero => exact h
  | succ n ih => exact ih.drew
theorem below_calls {w w1 w2 : World} {n : Nat} (h : Below w.heap.size w w1) (hb : Below (w1.drewN n).heap.size (w1.drewN n) w2) : Below w.heap.size w w2 := (belowN h n).trans (hb.mono (belowN h n).size)
set_option maxHeartbeats 1000000 in
set_option maxRecDepth 100000 in
theorem l3Here_1 (n : Int) (s : ByteArray) (len : Nat) (hlim : s.size ≤ 281474976710656) (w : World) (a : Option Addr) (c : Nat) : Calls Tryz.prog 141 #[.agg #[.int .i64 1, .int .i64 n, .string s, .slice a len c]] w fun e w' => e = .returned (.bool (here ⟨1, n, s⟩ len)) ∧ Below w.heap.size w w' := by
  by_cases hl : len = 0
  case neg =>
    have hf : Hid (here ⟨1, n, s⟩ len = false) := show here _ _ = false by simp [here, fnum, hl]
    have h1 : ((0 : Int) == (len : Int)) = false := int_ne (by omega)
    have h1' : ((0 : Int) != (len : Int)) = true := by rw [bne, h1]; rfl
    clear hl
    go_enter Tryz.func141, Tryz.ntmps141
    go_wp2_with fail
    go_quiet (exact (l3Parts_is 1 0 rfl _).mono fun _ _ h => ⟨h.1, _, h.2.symm⟩)
    go_wp2
    go_ret
    exact retB hf.out (belowN (alloc_below _ _) _)
  subst hl
  have hf : Hid (here ⟨1, n, s⟩ 0 = (decide (0 ≤ n) && decide (n ≤ 999999) && decide (s.size = 0))) := show here _ _ = _ by
    by_cases hs : s.size = 0
    · simp [here, fnum, hs]
    · simp [here, fnum, hs]
  go_enter Tryz.func141, Tryz.ntmps141
  go_wp2_with fail
  go_quiet (exact (l3Parts_is 1 0 rfl _).mono fun _ _ h => ⟨h.1, _, h.2.symm⟩)
  go_wp2_with fail
  refine (l1In_is n 0 999999 _).mono ?_
  rintro e w1 ⟨rfl, hb1⟩
  subst hb1
  obtain ⟨t, ht⟩ : ∃ t, (decide (0 ≤ n) && decide (n ≤ 999999)) = t := ⟨_, rfl⟩
  have Ht := Lib.hid ht
  rw [ht]
  clear ht
  cases t with
  | false =>
    go_wp2
    go_ret
    exact retB (by rw [hf.out, Ht.out]; rfl) (belowN (alloc_below _ _) _)
  | true =>
    by_cases hs : s.size = 0
    · have he := str_empty hs
      have Hs := Lib.hid hs
      clear hs
      go_wp2
      go_ret
      exact retB (by rw [hf.out, Ht.out, Hs.out]; rfl) (belowN (alloc_below _ _) _)
    · have he := str_full hs
      have Hs := Lib.hid hs
      clear hs
      go_wp2
      go_ret
      exact retB (by rw [hf.out, Ht.out, decide_eq_false Hs.out]; rfl) (belowN (alloc_below _ _) _)
set_option maxHeartbeats 1000000 in
set_option maxRecDepth 100000 in
theorem l3Here_2 (n : Int) (s : ByteArray) (len : Nat) (hlim : s.size ≤ 281474976710656) (w : World) (a : Option Addr) (c : Nat) : Calls Tryz.prog 141 #[.agg #[.int .i64 2, .int .i64 n, .string s, .slice a len c]] w fun e w' => e = .returned (.bool (here ⟨2, n, s⟩ len)) ∧ Below w.heap.size w w' := by
  by_cases hl : len = 0
  case neg =>
    have hf : Hid (here ⟨2, n, s⟩ len = false) := show here _ _ = false by simp [here, fnum, hl]
    have h1 : ((0 : Int) == (len : Int)) = false := int_ne (by omega)
    have h1' : ((0 : Int) != (len : Int)) = true := by rw [bne, h1]; rfl
    clear hl
    go_enter Tryz.func141, Tryz.ntmps141
    go_wp2_with fail
    go_quiet (exact (l3Parts_is 2 0 rfl _).mono fun _ _ h => ⟨h.1, _, h.2.symm⟩)
    go_wp2
    go_ret
    exact retB hf.out (belowN (alloc_below _ _) _)
  subst hl
  by_cases hn : n = 0
  case neg =>
    have hf : Hid (here ⟨2, n, s⟩ 0 = false) := show here _ _ = false by simp [here, fnum, hn]
    have h1 := int_ne hn
    have h1' : (n != 0) = true := by rw [bne, h1]; rfl
    clear hn
    go_enter Tryz.func141, Tryz.ntmps141
    go_wp2_with fail
    go_quiet (exact (l3Parts_is 2 0 rfl _).mono fun _ _ h => ⟨h.1, _, h.2.symm⟩)
    go_wp2
    go_ret
    exact retB hf.out (belowN (alloc_below _ _) _)
  subst hn
  have hf : Hid (here ⟨2, 0, s⟩ 0 = nameOk s.data.toList) := show here _ _ = _ by simp [here, fnum]
  obtain ⟨nb, hnb⟩ : ∃ b, nameOk s.data.toList = b := ⟨_, rfl⟩
  have Hnb := Lib.hid hnb
  clear hnb
  go_enter Tryz.func141, Tryz.ntmps141
  go_wp2_with fail
  go_quiet (exact (l3Parts_is 2 0 rfl _).mono fun _ _ h => ⟨h.1, _, h.2.symm⟩)
  go_wp2_with fail
  refine (spec_NameOk s nb Hnb.out hlim _).mono ?_
  rintro e w1 ⟨rfl, hb1⟩
  have B1 := below_calls (alloc_below _ _) hb1
  clear hb1
  go_wp2
  go_ret
  exact retB (by rw [hf.out, Hnb.out]) B1
set_option maxHeartbeats 1000000 in
set_option maxRecDepth 100000 in
theorem l3Here_3 (n : Int) (s : ByteArray) (len : Nat) (hlim : s.size ≤ 281474976710656) (w : World) (a : Option Addr) (c : Nat) : Calls Tryz.prog 141 #[.agg #[.int .i64 3, .int .i64 n, .string s, .slice a len c]] w fun e w' => e = .returned (.bool (here ⟨3, n, s⟩ len)) ∧ Below w.heap.size w w' := by
  by_cases hl : len = 1
  case neg =>
    have hf : Hid (here ⟨3, n, s⟩ len = false) := show here _ _ = false by simp [here, fnum, hl]
    have h1 : ((1 : Int) == (len : Int)) = false := int_ne (by omega)
    have h1' : ((1 : Int) != (len : Int)) = true := by rw [bne, h1]; rfl
    clear hl
    go_enter Tryz.func141, Tryz.ntmps141
    go_wp2_with fail
    go_quiet (exact (l3Parts_is 3 1 rfl _).mono fun _ _ h => ⟨h.1, _, h.2.symm⟩)
    go_wp2
    go_ret
    exact retB hf.out (belowN (alloc_below _ _) _)
  subst hl
  by_cases hn : n = 0
  case neg =>
    have hf : Hid (here ⟨3, n, s⟩ 1 = false) := show here _ _ = false by simp [here, fnum, hn]
    have h1 := int_ne hn
    have h1' : (n != 0) = true := by rw [bne, h1]; rfl
    clear hn
    go_enter Tryz.func141, Tryz.ntmps141
    go_wp2_with fail
    go_quiet (exact (l3Parts_is 3 1 rfl _).mono fun _ _ h => ⟨h.1, _, h.2.symm⟩)
    go_wp2
    go_ret
    exact retB hf.out (belowN (alloc_below _ _) _)
  subst hn
  have hf : Hid (here ⟨3, 0, s⟩ 1 = nameOk s.data.toList) := show here _ _ = _ by simp [here, fnum]
  obtain ⟨nb, hnb⟩ : ∃ b, nameOk s.data.toList = b := ⟨_, rfl⟩
  have Hnb := Lib.hid hnb
  clear hnb
  go_enter Tryz.func141, Tryz.ntmps141
  go_wp2_with fail
  go_quiet (exact (l3Parts_is 3 1 rfl _).mono fun _ _ h => ⟨h.1, _, h.2.symm⟩)
  go_wp2_with fail
  refine (spec_NameOk s nb Hnb.out hlim _).mono ?_
  rintro e w1 ⟨rfl, hb1⟩
  have B1 := below_calls (alloc_below _ _) hb1
  clear hb1
  go_wp2
  go_ret
  exact retB (by rw [hf.out, Hnb.out]) B1
set_option maxHeartbeats 1000000 in
set_option maxRecDepth 100000 in
theorem l3Here_4 (n : Int) (s : ByteArray) (len : Nat) (hlim : s.size ≤ 281474976710656) (w : World) (a : Option Addr) (c : Nat) : Calls Tryz.prog 141 #[.agg #[.int .i64 4, .int .i64 n, .string s, .slice a len c]] w fun e w' => e = .returned (.bool (here ⟨4, n, s⟩ len)) ∧ Below w.heap.size w w' := by
  by_cases hl : len = 2
  case neg =>
    have hf : Hid (here ⟨4, n, s⟩ len = false) := show here _ _ = false by simp [here, fnum, hl]
    have h1 : ((2 : Int) == (len : Int)) = false := int_ne (by omega)
    have h1' : ((2 : Int) != (len : Int)) = true := by rw [bne, h1]; rfl
    clear hl
    go_enter Tryz.func141, Tryz.ntmps141
    go_wp2_with fail
    go_quiet (exact (l3Parts_is 4 2 rfl _).mono fun _ _ h => ⟨h.1, _, h.2.symm⟩)
    go_wp2
    go_ret
    exact retB hf.out (belowN (alloc_below _ _) _)
  subst hl
  by_cases hn : n = 0
  case neg =>
    have hf : Hid (here ⟨4, n, s⟩ 2 = false) := show here _ _ = false by simp [here, fnum, hn]
    have h1 := int_ne hn
    have h1' : (n != 0) = true := by rw [bne, h1]; rfl
    clear hn
    go_enter Tryz.func141, Tryz.ntmps141
    go_wp2_with fail
    go_quiet (exact (l3Parts_is 4 2 rfl _).mono fun _ _ h => ⟨h.1, _, h.2.symm⟩)
    go_wp2
    go_ret
    exact retB hf.out (belowN (alloc_below _ _) _)
  subst hn
  by_cases hs : s.size = 0
  · have hf : Hid (here ⟨4, 0, s⟩ 2 = true) := show here _ _ = _ by simp [here, fnum, hs]
    have he := str_empty hs
    clear hs
    go_enter Tryz.func141, Tryz.ntmps141
    go_wp2_with fail
    go_quiet (exact (l3Parts_is 4 2 rfl _).mono fun _ _ h => ⟨h.1, _, h.2.symm⟩)
    go_wp2
    go_ret
    exact retB hf.out (belowN (alloc_below _ _) _)
  · have hf : Hid (here ⟨4, 0, s⟩ 2 = false) := show here _ _ = _ by simp [here, fnum, hs]
    have he := str_full hs
    clear hs
    go_enter Tryz.func141, Tryz.ntmps141
    go_wp2_with fail
    go_quiet (exact (l3Parts_is 4 2 rfl _).mono fun _ _ h => ⟨h.1, _, h.2.symm⟩)
    go_wp2
    go_ret
    exact retB hf.out (belowN (alloc_below _ _) _)
set_option maxHeartbeats 1000000 in
set_option maxRecDepth 100000 in
theorem l3Here_5 (n : Int) (s : ByteArray) (len : Nat) (hlim : s.size ≤ 281474976710656) (w : World) (a : Option Addr) (c : Nat) : Calls Tryz.prog 141 #[.agg #[.int .i64 5, .int .i64 n, .string s, .slice a len c]] w fun e w' => e = .returned (.bool (here ⟨5, n, s⟩ len)) ∧ Below w.heap.size w w' := by
  by_cases hl : len = 2
  case neg =>
    have hf : Hid (here ⟨5, n, s⟩ len = false) := show here _ _ = false by simp [here, fnum, hl]
    have h1 : ((2 : Int) == (len : Int)) = false := int_ne (by omega)
    have h1' : ((2 : Int) != (len : Int)) = true := by rw [bne, h1]; rfl
    clear hl
    go_enter Tryz.func141, Tryz.ntmps141
    go_wp2_with fail
    go_quiet (exact (l3Parts_is 5 2 rfl _).mono fun _ _ h => ⟨h.1, _, h.2.symm⟩)
    go_wp2
    go_ret
    exact retB hf.out (belowN (alloc_below _ _) _)
  subst hl
  by_cases hn : n = 0
  case neg =>
    have hf : Hid (here ⟨5, n, s⟩ 2 = false) := show here _ _ = false by simp [here, fnum, hn]
    have h1 := int_ne hn
    have h1' : (n != 0) = true := by rw [bne, h1]; rfl
    clear hn
    go_enter Tryz.func141, Tryz.ntmps141
    go_wp2_with fail
    go_quiet (exact (l3Parts_is 5 2 rfl _).mono fun _ _ h => ⟨h.1, _, h.2.symm⟩)
    go_wp2
    go_ret
    exact retB hf.out (belowN (alloc_below _ _) _)
  subst hn
  by_cases hs : s.size = 0
  · have hf : Hid (here ⟨5, 0, s⟩ 2 = true) := show here _ _ = _ by simp [here, fnum, hs]
    have he := str_empty hs
    clear hs
    go_enter Tryz.func141, Tryz.ntmps141
    go_wp2_with fail
    go_quiet (exact (l3Parts_is 5 2 rfl _).mono fun _ _ h => ⟨h.1, _, h.2.symm⟩)
    go_wp2
    go_ret
    exact retB hf.out (belowN (alloc_below _ _) _)
  · have hf : Hid (here ⟨5, 0, s⟩ 2 = false) := show here _ _ = _ by simp [here, fnum, hs]
    have he := str_full hs
    clear hs
    go_enter Tryz.func141, Tryz.ntmps141
    go_wp2_with fail
    go_quiet (exact (l3Parts_is 5 2 rfl _).mono fun _ _ h => ⟨h.1, _, h.2.symm⟩)
    go_wp2
    go_ret
    exact retB hf.out (belowN (alloc_below _ _) _)
set_option maxHeartbeats 1000000 in
set_option maxRecDepth 100000 in
theorem l3Here_6 (n : Int) (s : ByteArray) (len : Nat) (hlim : s.size ≤ 281474976710656) (w : World) (a : Option Addr) (c : Nat) : Calls Tryz.prog 141 #[.agg #[.int .i64 6, .int .i64 n, .string s, .slice a len c]] w fun e w' => e = .returned (.bool (here ⟨6, n, s⟩ len)) ∧ Below w.heap.size w w' := by
  by_cases hl : len = 2
  case neg =>
    have hf : Hid (here ⟨6, n, s⟩ len = false) := show here _ _ = false by simp [here, fnum, hl]
    have h1 : ((2 : Int) == (len : Int)) = false := int_ne (by omega)
    have h1' : ((2 : Int) != (len : Int)) = true := by rw [bne, h1]; rfl
    clear hl
    go_enter Tryz.func141, Tryz.ntmps141
    go_wp2_with fail
    go_quiet (exact (l3Parts_is 6 2 rfl _).mono fun _ _ h => ⟨h.1, _, h.2.symm⟩)
    go_wp2
    go_ret
    exact retB hf.out (belowN (alloc_below _ _) _)
  subst hl
  by_cases hn : n = 0
  case neg =>
    have hf : Hid (here ⟨6, n, s⟩ 2 = false) := show here _ _ = false by simp [here, fnum, hn]
    have h1 := int_ne hn
    have h1' : (n != 0) = true := by rw [bne, h1]; rfl
    clear hn
    go_enter Tryz.func141, Tryz.ntmps141
    go_wp2_with fail
    go_quiet (exact (l3Parts_is 6 2 rfl _).mono fun _ _ h => ⟨h.1, _, h.2.symm⟩)
    go_wp2
    go_ret
    exact retB hf.out (belowN (alloc_below _ _) _)
  subst hn
  by_cases hs : s.size = 0
  · have hf : Hid (here ⟨6, 0, s⟩ 2 = true) := show here _ _ = _ by simp [here, fnum, hs]
    have he := str_empty hs
    clear hs
    go_enter Tryz.func141, Tryz.ntmps141
    go_wp2_with fail
    go_quiet (exact (l3Parts_is 6 2 rfl _).mono fun _ _ h => ⟨h.1, _, h.2.symm⟩)
    go_wp2
    go_ret
    exact retB hf.out (belowN (alloc_below _ _) _)
  · have hf : Hid (here ⟨6, 0, s⟩ 2 = false) := show here _ _ = _ by simp [here, fnum, hs]
    have he := str_full hs
    clear hs
    go_enter Tryz.func141, Tryz.ntmps141
    go_wp2_with fail
    go_quiet (exact (l3Parts_is 6 2 rfl _).mono fun _ _ h => ⟨h.1, _, h.2.symm⟩)
    go_wp2
    go_ret
    exact retB hf.out (belowN (alloc_below _ _) _)
set_option maxHeartbeats 1000000 in
set_option maxRecDepth 100000 in
theorem l3Here_7 (n : Int) (s : ByteArray) (len : Nat) (hlim : s.size ≤ 281474976710656) (w : World) (a : Option Addr) (c : Nat) : Calls Tryz.prog 141 #[.agg #[.int .i64 7, .int .i64 n, .string s, .slice a len c]] w fun e w' => e = .returned (.bool (here ⟨7, n, s⟩ len)) ∧ Below w.heap.size w w' := by
  by_cases hl : len = 2
  case neg =>
    have hf : Hid (here ⟨7, n, s⟩ len = false) := show here _ _ = false by simp [here, fnum, hl]
    have h1 : ((2 : Int) == (len : Int)) = false := int_ne (by omega)
    have h1' : ((2 : Int) != (len : Int)) = true := by rw [bne, h1]; rfl
    clear hl
    go_enter Tryz.func141, Tryz.ntmps141
    go_wp2_with fail
    go_quiet (exact (l3Parts_is 7 2 rfl _).mono fun _ _ h => ⟨h.1, _, h.2.symm⟩)
    go_wp2
    go_ret
    exact retB hf.out (belowN (alloc_below _ _) _)
  subst hl
  by_cases hn : n = 0
  case neg =>
    have hf : Hid (here ⟨7, n, s⟩ 2 = false) := show here _ _ = false by simp [here, fnum, hn]
    have h1 := int_ne hn
    have h1' : (n != 0) = true := by rw [bne, h1]; rfl
    clear hn
    go_enter Tryz.func141, Tryz.ntmps141
    go_wp2_with fail
    go_quiet (exact (l3Parts_is 7 2 rfl _).mono fun _ _ h => ⟨h.1, _, h.2.symm⟩)
    go_wp2
    go_ret
    exact retB hf.out (belowN (alloc_below _ _) _)
  subst hn
  by_cases hs : s.size = 0
  · have hf : Hid (here ⟨7, 0, s⟩ 2 = true) := show here _ _ = _ by simp [here, fnum, hs]
    have he := str_empty hs
    clear hs
    go_enter Tryz.func141, Tryz.ntmps141
    go_wp2_with fail
    go_quiet (exact (l3Parts_is 7 2 rfl _).mono fun _ _ h => ⟨h.1, _, h.2.symm⟩)
    go_wp2
    go_ret
    exact retB hf.out (belowN (alloc_below _ _) _)
  · have hf : Hid (here ⟨7, 0, s⟩ 2 = false) := show here _ _ = _ by simp [here, fnum, hs]
    have he := str_full hs
    clear hs
    go_enter Tryz.func141, Tryz.ntmps141
    go_wp2_with fail
    go_quiet (exact (l3Parts_is 7 2 rfl _).mono fun _ _ h => ⟨h.1, _, h.2.symm⟩)
    go_wp2
    go_ret
    exact retB hf.out (belowN (alloc_below _ _) _)
set_option maxHeartbeats 1000000 in
set_option maxRecDepth 100000 in
theorem l3Here_8 (n : Int) (s : ByteArray) (len : Nat) (hlim : s.size ≤ 281474976710656) (w : World) (a : Option Addr) (c : Nat) : Calls Tryz.prog 141 #[.agg #[.int .i64 8, .int .i64 n, .string s, .slice a len c]] w fun e w' => e = .returned (.bool (here ⟨8, n, s⟩ len)) ∧ Below w.heap.size w w' := by
  by_cases hl : len = 2
  case neg =>
    have hf : Hid (here ⟨8, n, s⟩ len = false) := show here _ _ = false by simp [here, fnum, hl]
    have h1 : ((2 : Int) == (len : Int)) = false := int_ne (by omega)
    have h1' : ((2 : Int) != (len : Int)) = true := by rw [bne, h1]; rfl
    clear hl
    go_enter Tryz.func141, Tryz.ntmps141
    go_wp2_with fail
    go_quiet (exact (l3Parts_is 8 2 rfl _).mono fun _ _ h => ⟨h.1, _, h.2.symm⟩)
    go_wp2
    go_ret
    exact retB hf.out (belowN (alloc_below _ _) _)
  subst hl
  by_cases hn : n = 0
  case neg =>
    have hf : Hid (here ⟨8, n, s⟩ 2 = false) := show here _ _ = false by simp [here, fnum, hn]
    have h1 := int_ne hn
    have h1' : (n != 0) = true := by rw [bne, h1]; rfl
    clear hn
    go_enter Tryz.func141, Tryz.ntmps141
    go_wp2_with fail
    go_quiet (exact (l3Parts_is 8 2 rfl _).mono fun _ _ h => ⟨h.1, _, h.2.symm⟩)
    go_wp2
    go_ret
    exact retB hf.out (belowN (alloc_below _ _) _)
  subst hn
  by_cases hs : s.size = 0
  · have hf : Hid (here ⟨8, 0, s⟩ 2 = true) := show here _ _ = _ by simp [here, fnum, hs]
    have he := str_empty hs
    clear hs
    go_enter Tryz.func141, Tryz.ntmps141
    go_wp2_with fail
    go_quiet (exact (l3Parts_is 8 2 rfl _).mono fun _ _ h => ⟨h.1, _, h.2.symm⟩)
    go_wp2
    go_ret
    exact retB hf.out (belowN (alloc_below _ _) _)
  · have hf : Hid (here ⟨8, 0, s⟩ 2 = false) := show here _ _ = _ by simp [here, fnum, hs]
    have he := str_full hs
    clear hs
    go_enter Tryz.func141, Tryz.ntmps141
    go_wp2_with fail
    go_quiet (exact (l3Parts_is 8 2 rfl _).mono fun _ _ h => ⟨h.1, _, h.2.symm⟩)
    go_wp2
    go_ret
    exact retB hf.out (belowN (alloc_below _ _) _)
set_option maxHeartbeats 1000000 in
set_option maxRecDepth 100000 in
theorem l3Here_0 (k : Int) (hk : ¬ (1 ≤ k ∧ k ≤ 8)) (n : Int) (s : ByteArray) (len : Nat) (hlim : s.size ≤ 281474976710656) (w : World) (a : Option Addr) (c : Nat) : Calls Tryz.prog 141 #[.agg #[.int .i64 k, .int .i64 n, .string s, .slice a len c]] w fun e w' => e = .returned (.bool (here ⟨k, n, s⟩ len)) ∧ Below w.heap.size w w' := by
  have hf : Hid (here ⟨k, n, s⟩ len = false) := show here _ _ = false by
    have : fnum ⟨k, n, s⟩ len = 0 := by
      simp only [fnum]
      rw [if_neg (by omega), if_neg (by omega), if_neg (by omega), if_neg (by omega)]
    simp [here, this]
  have hp : Hid (parts k = -1) := show parts k = -1 by
    unfold parts
    rw [if_neg (by omega), if_neg (by omega), if_neg (by omega)]
  have h1 : ((-1 : Int) == (len : Int)) = false := int_ne (by omega)
  have h1' : ((-1 : Int) != (len : Int)) = true := by rw [bne, h1]; rfl
  clear hk
  go_enter Tryz.func141, Tryz.ntmps141
  go_wp2_with fail
  go_quiet (exact (l3Parts_is k (-1) hp.out _).mono fun _ _ h => ⟨h.1, _, h.2.symm⟩)
  go_wp2
  go_ret
  exact retB hf.out (belowN (alloc_below _ _) _)
theorem l3Here_is (x : X) (hlim : x.h.s.size ≤ 281474976710656) (w : World) (v : Value) (hv : EV w 0 x.l v) : Calls Tryz.prog 141 #[.agg #[.int .i64 x.h.k, .int .i64 x.h.n, .string x.h.s, v]] w fun e w' => e = .returned (.bool (here x.h (elen x.l))) ∧ Below w.heap.size w w' := by
  obtain ⟨a, c, rfl⟩ := hv.shape
  obtain ⟨⟨k, n, s⟩, l⟩ := x
  by_cases hk : 1 ≤ k ∧ k ≤ 8
  · obtain h | h | h | h | h | h | h | h : k = 1 ∨ k = 2 ∨ k = 3 ∨ k = 4 ∨ k = 5 ∨ k = 6 ∨ k = 7 ∨ k = 8 := by omega
    · subst h; exact l3Here_1 n s (elen l) hlim w a c
    · subst h; exact l3Here_2 n s (elen l) hlim w a c
    · subst h; exact l3Here_3 n s (elen l) hlim w a c
    · subst h; exact l3Here_4 n s (elen l) hlim w a c
    · subst h; exact l3Here_5 n s (elen l) hlim w a c
    · subst h; exact l3Here_6 n s (elen l) hlim w a c
    · subst h; exact l3Here_7 n s (elen l) hlim w a c
    · subst h; exact l3Here_8 n s (elen l) hlim w a c
  · exact l3Here_0 k hk n s (elen l) hlim w a c
end Go.Proofs.YtkilmefpaojkfaaGreat
