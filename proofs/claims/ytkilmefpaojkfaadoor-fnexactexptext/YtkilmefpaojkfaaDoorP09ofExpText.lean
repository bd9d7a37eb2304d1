/-
  Texts in one: AstHere, AstCnt, TxtExp, AstOpen.
-/
import Derived.Test.YtkilmefpaojkfaaDoorP06ofExpText
import Derived.BigQuiet
import Derived.Deep.QuietTactic
import Derived.Test.YtkilmefpaojkfaaDoorP08ofExpText
import Derived.Test.YtkilmefpaojkfaaDoorP01ofExpText
import Derived.ProofKit
import Derived.OpenShut
import Derived.ShutString
import Derived.ChangeOld
import Derived.Deep.Slices
/-
  The contracts of the specification's l3Parts, l1In, l3Here.
-/
namespace Go.Proofs.YtkilmefpaojkfaaDoor
open Go.RowKit Go.Lib
set_option linter.unusedSimpArgs false
set_option linter.unusedVariables false

def parts (k : Int) : Int := if k = 1 ∨ k = 2 then 0 else if k = 3 then 1 else if 4 ≤ k ∧ k ≤ 8 then 2 else -1
theorem l3Parts_is (k r : Int) (hr : parts k = r) (w : World) : Calls Tryd.prog 37 #[.int .i64 k] w fun e w' => e = .returned (.int .i64 r) ∧ w = w' := by
  subst hr
  by_cases hk : 1 ≤ k ∧ k ≤ 8
  · obtain rfl | rfl | rfl | rfl | rfl | rfl | rfl | rfl : k = 1 ∨ k = 2 ∨ k = 3 ∨ k = 4 ∨ k = 5 ∨ k = 6 ∨ k = 7 ∨ k = 8 := by omega
    all_goals
      clear hk
      go_enter Tryd.func37, Tryd.ntmps37
      go_wp2
      go_ret
      exact ⟨rfl, rfl⟩
  · have hf : Hid (parts k = -1) := show parts k = -1 by
      unfold parts
      rw [if_neg (by omega), if_neg (by omega), if_neg (by omega)]
    have e1 : (k == 1) = false := int_ne (by omega)
    have e2 : (k == 2) = false := int_ne (by omega)
    have e3 : (k == 3) = false := int_ne (by omega)
    have e4 : (k == 4) = false := int_ne (by omega)
    have e5 : (k == 5) = false := int_ne (by omega)
    have e6 : (k == 6) = false := int_ne (by omega)
    have e7 : (k == 7) = false := int_ne (by omega)
    have e8 : (k == 8) = false := int_ne (by omega)
    clear hk
    go_enter Tryd.func37, Tryd.ntmps37
    go_wp2
    go_ret
    exact retI (by rw [hf.out]) rfl
theorem l1In_is (n a b : Int) (w : World) : Calls Tryd.prog 38 #[.int .i64 n, .int .i64 a, .int .i64 b] w fun e w' => e = .returned (.bool (decide (a ≤ n) && decide (n ≤ b))) ∧ w = w' := by
  by_cases h1 : a ≤ n
  · by_cases h2 : n ≤ b
    · go_enter Tryd.func38, Tryd.ntmps38
      go_wp2
      go_ret
      exact retB (by rw [decide_eq_true h1, decide_eq_true h2]; rfl) rfl
    · go_enter Tryd.func38, Tryd.ntmps38
      go_wp2
      go_ret
      exact retB (by first | (rw [decide_eq_false (by omega)]) | (simp; omega)) rfl
  · go_enter Tryd.func38, Tryd.ntmps38
    go_wp2
    go_ret
    exact retB (by rw [decide_eq_false (by omega)]; rfl) rfl
theorem belowN {B : Nat} {w w' : World} (h : Below B w w') (n : Nat) : Below B w (w'.drewN n) := by
  induction n with
  | zero => exact h
  | succ n ih => exact ih.drew
theorem below_calls {w w1 w2 : World} {n : Nat} (h : Below w.heap.size w w1) (hb : Below (w1.drewN n).heap.size (w1.drewN n) w2) : Below w.heap.size w w2 := (belowN h n).trans (hb.mono (belowN h n).size)
set_option maxHeartbeats 1000000 in
set_option maxRecDepth 100000 in
theorem l3Here_1 (n : Int) (s : ByteArray) (len : Nat) (hlim : s.size ≤ 281474976710656) (w : World) (a : Option Addr) (c : Nat) : Calls Tryd.prog 26 #[.agg #[.int .i64 1, .int .i64 n, .string s, .slice a len c]] w fun e w' => e = .returned (.bool (here ⟨1, n, s⟩ len)) ∧ Below w.heap.size w w' := by
  by_cases hl : len = 0
  case neg =>
    have hf : Hid (here ⟨1, n, s⟩ len = false) := show here _ _ = false by simp [here, fnum, hl]
    have h1 : ((0 : Int) == (len : Int)) = false := int_ne (by omega)
    have h1' : ((0 : Int) != (len : Int)) = true := by rw [bne, h1]; rfl
    clear hl
    go_enter Tryd.func26, Tryd.ntmps26
    go_wp2_with fail
    go_quiet (exact (l3Parts_is 1 0 rfl _).mono fun _ _ h => ⟨h.1, _, h.2.symm⟩)
    go_wp2
    go_ret
    exact retB hf.out (belowN (alloc_below _ _) _)
  subst hl
  have hf : Hid (here ⟨1, n, s⟩ 0 = (decide (0 ≤ n) && decide (n ≤ 999999) && decide (s.size = 0))) := show here _ _ = _ by
    by_cases hs : s.size = 0
    · simp [here, fnum, hs]
    · simp [here, fnum, hs]
  go_enter Tryd.func26, Tryd.ntmps26
  go_wp2_with fail
  go_quiet (exact (l3Parts_is 1 0 rfl _).mono fun _ _ h => ⟨h.1, _, h.2.symm⟩)
  go_wp2_with fail
  refine (l1In_is n 0 999999 _).mono ?_
  rintro e w1 ⟨rfl, hb1⟩
  subst hb1
  obtain ⟨t, ht⟩ : ∃ t, (decide (0 ≤ n) && decide (n ≤ 999999)) = t := ⟨_, rfl⟩
  have Ht := Lib.hid ht
  rw [ht]
  clear ht
  cases t with
  | false =>
    go_wp2
    go_ret
    exact retB (by rw [hf.out, Ht.out]; rfl) (belowN (alloc_below _ _) _)
  | true =>
    by_cases hs : s.size = 0
    · have he := str_empty hs
      have Hs := Lib.hid hs
      clear hs
      go_wp2
      go_ret
      exact retB (by rw [hf.out, Ht.out, Hs.out]; rfl) (belowN (alloc_below _ _) _)
    · have he := str_full hs
      have Hs := Lib.hid hs
      clear hs
      go_wp2
      go_ret
      exact retB (by rw [hf.out, Ht.out, decide_eq_false Hs.out]; rfl) (belowN (alloc_below _ _) _)
set_option maxHeartbeats 1000000 in
set_option maxRecDepth 100000 in
theorem l3Here_2 (n : Int) (s : ByteArray) (len : Nat) (hlim : s.size ≤ 281474976710656) (w : World) (a : Option Addr) (c : Nat) : Calls Tryd.prog 26 #[.agg #[.int .i64 2, .int .i64 n, .string s, .slice a len c]] w fun e w' => e = .returned (.bool (here ⟨2, n, s⟩ len)) ∧ Below w.heap.size w w' := by
  by_cases hl : len = 0
  case neg =>
    have hf : Hid (here ⟨2, n, s⟩ len = false) := show here _ _ = false by simp [here, fnum, hl]
    have h1 : ((0 : Int) == (len : Int)) = false := int_ne (by omega)
    have h1' : ((0 : Int) != (len : Int)) = true := by rw [bne, h1]; rfl
    clear hl
    go_enter Tryd.func26, Tryd.ntmps26
    go_wp2_with fail
    go_quiet (exact (l3Parts_is 2 0 rfl _).mono fun _ _ h => ⟨h.1, _, h.2.symm⟩)
    go_wp2
    go_ret
    exact retB hf.out (belowN (alloc_below _ _) _)
  subst hl
  by_cases hn : n = 0
  case neg =>
    have hf : Hid (here ⟨2, n, s⟩ 0 = false) := show here _ _ = false by simp [here, fnum, hn]
    have h1 := int_ne hn
    have h1' : (n != 0) = true := by rw [bne, h1]; rfl
    clear hn
    go_enter Tryd.func26, Tryd.ntmps26
    go_wp2_with fail
    go_quiet (exact (l3Parts_is 2 0 rfl _).mono fun _ _ h => ⟨h.1, _, h.2.symm⟩)
    go_wp2
    go_ret
    exact retB hf.out (belowN (alloc_below _ _) _)
  subst hn
  have hf : Hid (here ⟨2, 0, s⟩ 0 = nameOk s.data.toList) := show here _ _ = _ by simp [here, fnum]
  obtain ⟨nb, hnb⟩ : ∃ b, nameOk s.data.toList = b := ⟨_, rfl⟩
  have Hnb := Lib.hid hnb
  clear hnb
  go_enter Tryd.func26, Tryd.ntmps26
  go_wp2_with fail
  go_quiet (exact (l3Parts_is 2 0 rfl _).mono fun _ _ h => ⟨h.1, _, h.2.symm⟩)
  go_wp2_with fail
  refine (spec_NameOk s nb Hnb.out hlim _).mono ?_
  rintro e w1 ⟨rfl, hb1⟩
  have B1 := below_calls (alloc_below _ _) hb1
  clear hb1
  go_wp2
  go_ret
  exact retB (by rw [hf.out, Hnb.out]) B1
set_option maxHeartbeats 1000000 in
set_option maxRecDepth 100000 in
theorem l3Here_3 (n : Int) (s : ByteArray) (len : Nat) (hlim : s.size ≤ 281474976710656) (w : World) (a : Option Addr) (c : Nat) : Calls Tryd.prog 26 #[.agg #[.int .i64 3, .int .i64 n, .string s, .slice a len c]] w fun e w' => e = .returned (.bool (here ⟨3, n, s⟩ len)) ∧ Below w.heap.size w w' := by
  by_cases hl : len = 1
  case neg =>
    have hf : Hid (here ⟨3, n, s⟩ len = false) := show here _ _ = false by simp [here, fnum, hl]
    have h1 : ((1 : Int) == (len : Int)) = false := int_ne (by omega)
    have h1' : ((1 : Int) != (len : Int)) = true := by rw [bne, h1]; rfl
    clear hl
    go_enter Tryd.func26, Tryd.ntmps26
    go_wp2_with fail
    go_quiet (exact (l3Parts_is 3 1 rfl _).mono fun _ _ h => ⟨h.1, _, h.2.symm⟩)
    go_wp2
    go_ret
    exact retB hf.out (belowN (alloc_below _ _) _)
  subst hl
  by_cases hn : n = 0
  case neg =>
    have hf : Hid (here ⟨3, n, s⟩ 1 = false) := show here _ _ = false by simp [here, fnum, hn]
    have h1 := int_ne hn
    have h1' : (n != 0) = true := by rw [bne, h1]; rfl
    clear hn
    go_enter Tryd.func26, Tryd.ntmps26
    go_wp2_with fail
    go_quiet (exact (l3Parts_is 3 1 rfl _).mono fun _ _ h => ⟨h.1, _, h.2.symm⟩)
    go_wp2
    go_ret
    exact retB hf.out (belowN (alloc_below _ _) _)
  subst hn
  have hf : Hid (here ⟨3, 0, s⟩ 1 = nameOk s.data.toList) := show here _ _ = _ by simp [here, fnum]
  obtain ⟨nb, hnb⟩ : ∃ b, nameOk s.data.toList = b := ⟨_, rfl⟩
  have Hnb := Lib.hid hnb
  clear hnb
  go_enter Tryd.func26, Tryd.ntmps26
  go_wp2_with fail
  go_quiet (exact (l3Parts_is 3 1 rfl _).mono fun _ _ h => ⟨h.1, _, h.2.symm⟩)
  go_wp2_with fail
  refine (spec_NameOk s nb Hnb.out hlim _).mono ?_
  rintro e w1 ⟨rfl, hb1⟩
  have B1 := below_calls (alloc_below _ _) hb1
  clear hb1
  go_wp2
  go_ret
  exact retB (by rw [hf.out, Hnb.out]) B1
set_option maxHeartbeats 1000000 in
set_option maxRecDepth 100000 in
theorem l3Here_4 (n : Int) (s : ByteArray) (len : Nat) (hlim : s.size ≤ 281474976710656) (w : World) (a : Option Addr) (c : Nat) : Calls Tryd.prog 26 #[.agg #[.int .i64 4, .int .i64 n, .string s, .slice a len c]] w fun e w' => e = .returned (.bool (here ⟨4, n, s⟩ len)) ∧ Below w.heap.size w w' := by
  by_cases hl : len = 2
  case neg =>
    have hf : Hid (here ⟨4, n, s⟩ len = false) := show here _ _ = false by simp [here, fnum, hl]
    have h1 : ((2 : Int) == (len : Int)) = false := int_ne (by omega)
    have h1' : ((2 : Int) != (len : Int)) = true := by rw [bne, h1]; rfl
    clear hl
    go_enter Tryd.func26, Tryd.ntmps26
    go_wp2_with fail
    go_quiet (exact (l3Parts_is 4 2 rfl _).mono fun _ _ h => ⟨h.1, _, h.2.symm⟩)
    go_wp2
    go_ret
    exact retB hf.out (belowN (alloc_below _ _) _)
  subst hl
  by_cases hn : n = 0
  case neg =>
    have hf : Hid (here ⟨4, n, s⟩ 2 = false) := show here _ _ = false by simp [here, fnum, hn]
    have h1 := int_ne hn
    have h1' : (n != 0) = true := by rw [bne, h1]; rfl
    clear hn
    go_enter Tryd.func26, Tryd.ntmps26
    go_wp2_with fail
    go_quiet (exact (l3Parts_is 4 2 rfl _).mono fun _ _ h => ⟨h.1, _, h.2.symm⟩)
    go_wp2
    go_ret
    exact retB hf.out (belowN (alloc_below _ _) _)
  subst hn
  by_cases hs : s.size = 0
  · have hf : Hid (here ⟨4, 0, s⟩ 2 = true) := show here _ _ = _ by simp [here, fnum, hs]
    have he := str_empty hs
    clear hs
    go_enter Tryd.func26, Tryd.ntmps26
    go_wp2_with fail
    go_quiet (exact (l3Parts_is 4 2 rfl _).mono fun _ _ h => ⟨h.1, _, h.2.symm⟩)
    go_wp2
    go_ret
    exact retB hf.out (belowN (alloc_below _ _) _)
  · have hf : Hid (here ⟨4, 0, s⟩ 2 = false) := show here _ _ = _ by simp [here, fnum, hs]
    have he := str_full hs
    clear hs
    go_enter Tryd.func26, Tryd.ntmps26
    go_wp2_with fail
    go_quiet (exact (l3Parts_is 4 2 rfl _).mono fun _ _ h => ⟨h.1, _, h.2.symm⟩)
    go_wp2
    go_ret
    exact retB hf.out (belowN (alloc_below _ _) _)
set_option maxHeartbeats 1000000 in
set_option maxRecDepth 100000 in
theorem l3Here_5 (n : Int) (s : ByteArray) (len : Nat) (hlim : s.size ≤ 281474976710656) (w : World) (a : Option Addr) (c : Nat) : Calls Tryd.prog 26 #[.agg #[.int .i64 5, .int .i64 n, .string s, .slice a len c]] w fun e w' => e = .returned (.bool (here ⟨5, n, s⟩ len)) ∧ Below w.heap.size w w' := by
  by_cases hl : len = 2
  case neg =>
    have hf : Hid (here ⟨5, n, s⟩ len = false) := show here _ _ = false by simp [here, fnum, hl]
    have h1 : ((2 : Int) == (len : Int)) = false := int_ne (by omega)
    have h1' : ((2 : Int) != (len : Int)) = true := by rw [bne, h1]; rfl
    clear hl
    go_enter Tryd.func26, Tryd.ntmps26
    go_wp2_with fail
    go_quiet (exact (l3Parts_is 5 2 rfl _).mono fun _ _ h => ⟨h.1, _, h.2.symm⟩)
    go_wp2
    go_ret
    exact retB hf.out (belowN (alloc_below _ _) _)
  subst hl
  by_cases hn : n = 0
  case neg =>
    have hf : Hid (here ⟨5, n, s⟩ 2 = false) := show here _ _ = false by simp [here, fnum, hn]
    have h1 := int_ne hn
    have h1' : (n != 0) = true := by rw [bne, h1]; rfl
    clear hn
    go_enter Tryd.func26, Tryd.ntmps26
    go_wp2_with fail
    go_quiet (exact (l3Parts_is 5 2 rfl _).mono fun _ _ h => ⟨h.1, _, h.2.symm⟩)
    go_wp2
    go_ret
    exact retB hf.out (belowN (alloc_below _ _) _)
  subst hn
  by_cases hs : s.size = 0
  · have hf : Hid (here ⟨5, 0, s⟩ 2 = true) := show here _ _ = _ by simp [here, fnum, hs]
    have he := str_empty hs
    clear hs
    go_enter Tryd.func26, Tryd.ntmps26
    go_wp2_with fail
    go_quiet (exact (l3Parts_is 5 2 rfl _).mono fun _ _ h => ⟨h.1, _, h.2.symm⟩)
    go_wp2
    go_ret
    exact retB hf.out (belowN (alloc_below _ _) _)
  · have hf : Hid (here ⟨5, 0, s⟩ 2 = false) := show here _ _ = _ by simp [here, fnum, hs]
    have he := str_full hs
    clear hs
    go_enter Tryd.func26, Tryd.ntmps26
    go_wp2_with fail
    go_quiet (exact (l3Parts_is 5 2 rfl _).mono fun _ _ h => ⟨h.1, _, h.2.symm⟩)
    go_wp2
    go_ret
    exact retB hf.out (belowN (alloc_below _ _) _)
set_option maxHeartbeats 1000000 in
set_option maxRecDepth 100000 in
theorem l3Here_6 (n : Int) (s : ByteArray) (len : Nat) (hlim : s.size ≤ 281474976710656) (w : World) (a : Option Addr) (c : Nat) : Calls Tryd.prog 26 #[.agg #[.int .i64 6, .int .i64 n, .string s, .slice a len c]] w fun e w' => e = .returned (.bool (here ⟨6, n, s⟩ len)) ∧ Below w.heap.size w w' := by
  by_cases hl : len = 2
  case neg =>
    have hf : Hid (here ⟨6, n, s⟩ len = false) := show here _ _ = false by simp [here, fnum, hl]
    have h1 : ((2 : Int) == (len : Int)) = false := int_ne (by omega)
    have h1' : ((2 : Int) != (len : Int)) = true := by rw [bne, h1]; rfl
    clear hl
    go_enter Tryd.func26, Tryd.ntmps26
    go_wp2_with fail
    go_quiet (exact (l3Parts_is 6 2 rfl _).mono fun _ _ h => ⟨h.1, _, h.2.symm⟩)
    go_wp2
    go_ret
    exact retB hf.out (belowN (alloc_below _ _) _)
  subst hl
  by_cases hn : n = 0
  case neg =>
    have hf : Hid (here ⟨6, n, s⟩ 2 = false) := show here _ _ = false by simp [here, fnum, hn]
    have h1 := int_ne hn
    have h1' : (n != 0) = true := by rw [bne, h1]; rfl
    clear hn
    go_enter Tryd.func26, Tryd.ntmps26
    go_wp2_with fail
    go_quiet (exact (l3Parts_is 6 2 rfl _).mono fun _ _ h => ⟨h.1, _, h.2.symm⟩)
    go_wp2
    go_ret
    exact retB hf.out (belowN (alloc_below _ _) _)
  subst hn
  by_cases hs : s.size = 0
  · have hf : Hid (here ⟨6, 0, s⟩ 2 = true) := show here _ _ = _ by simp [here, fnum, hs]
    have he := str_empty hs
    clear hs
    go_enter Tryd.func26, Tryd.ntmps26
    go_wp2_with fail
    go_quiet (exact (l3Parts_is 6 2 rfl _).mono fun _ _ h => ⟨h.1, _, h.2.symm⟩)
    go_wp2
    go_ret
    exact retB hf.out (belowN (alloc_below _ _) _)
  · have hf : Hid (here ⟨6, 0, s⟩ 2 = false) := show here _ _ = _ by simp [here, fnum, hs]
    have he := str_full hs
    clear hs
    go_enter Tryd.func26, Tryd.ntmps26
    go_wp2_with fail
    go_quiet (exact (l3Parts_is 6 2 rfl _).mono fun _ _ h => ⟨h.1, _, h.2.symm⟩)
    go_wp2
    go_ret
    exact retB hf.out (belowN (alloc_below _ _) _)
set_option maxHeartbeats 1000000 in
set_option maxRecDepth 100000 in
theorem l3Here_7 (n : Int) (s : ByteArray) (len : Nat) (hlim : s.size ≤ 281474976710656) (w : World) (a : Option Addr) (c : Nat) : Calls Tryd.prog 26 #[.agg #[.int .i64 7, .int .i64 n, .string s, .slice a len c]] w fun e w' => e = .returned (.bool (here ⟨7, n, s⟩ len)) ∧ Below w.heap.size w w' := by
  by_cases hl : len = 2
  case neg =>
    have hf : Hid (here ⟨7, n, s⟩ len = false) := show here _ _ = false by simp [here, fnum, hl]
    have h1 : ((2 : Int) == (len : Int)) = false := int_ne (by omega)
    have h1' : ((2 : Int) != (len : Int)) = true := by rw [bne, h1]; rfl
    clear hl
    go_enter Tryd.func26, Tryd.ntmps26
    go_wp2_with fail
    go_quiet (exact (l3Parts_is 7 2 rfl _).mono fun _ _ h => ⟨h.1, _, h.2.symm⟩)
    go_wp2
    go_ret
    exact retB hf.out (belowN (alloc_below _ _) _)
  subst hl
  by_cases hn : n = 0
  case neg =>
    have hf : Hid (here ⟨7, n, s⟩ 2 = false) := show here _ _ = false by simp [here, fnum, hn]
    have h1 := int_ne hn
    have h1' : (n != 0) = true := by rw [bne, h1]; rfl
    clear hn
    go_enter Tryd.func26, Tryd.ntmps26
    go_wp2_with fail
    go_quiet (exact (l3Parts_is 7 2 rfl _).mono fun _ _ h => ⟨h.1, _, h.2.symm⟩)
    go_wp2
    go_ret
    exact retB hf.out (belowN (alloc_below _ _) _)
  subst hn
  by_cases hs : s.size = 0
  · have hf : Hid (here ⟨7, 0, s⟩ 2 = true) := show here _ _ = _ by simp [here, fnum, hs]
    have he := str_empty hs
    clear hs
    go_enter Tryd.func26, Tryd.ntmps26
    go_wp2_with fail
    go_quiet (exact (l3Parts_is 7 2 rfl _).mono fun _ _ h => ⟨h.1, _, h.2.symm⟩)
    go_wp2
    go_ret
    exact retB hf.out (belowN (alloc_below _ _) _)
  · have hf : Hid (here ⟨7, 0, s⟩ 2 = false) := show here _ _ = _ by simp [here, fnum, hs]
    have he := str_full hs
    clear hs
    go_enter Tryd.func26, Tryd.ntmps26
    go_wp2_with fail
    go_quiet (exact (l3Parts_is 7 2 rfl _).mono fun _ _ h => ⟨h.1, _, h.2.symm⟩)
    go_wp2
    go_ret
    exact retB hf.out (belowN (alloc_below _ _) _)
set_option maxHeartbeats 1000000 in
set_option maxRecDepth 100000 in
theorem l3Here_8 (n : Int) (s : ByteArray) (len : Nat) (hlim : s.size ≤ 281474976710656) (w : World) (a : Option Addr) (c : Nat) : Calls Tryd.prog 26 #[.agg #[.int .i64 8, .int .i64 n, .string s, .slice a len c]] w fun e w' => e = .returned (.bool (here ⟨8, n, s⟩ len)) ∧ Below w.heap.size w w' := by
  by_cases hl : len = 2
  case neg =>
    have hf : Hid (here ⟨8, n, s⟩ len = false) := show here _ _ = false by simp [here, fnum, hl]
    have h1 : ((2 : Int) == (len : Int)) = false := int_ne (by omega)
    have h1' : ((2 : Int) != (len : Int)) = true := by rw [bne, h1]; rfl
    clear hl
    go_enter Tryd.func26, Tryd.ntmps26
    go_wp2_with fail
    go_quiet (exact (l3Parts_is 8 2 rfl _).mono fun _ _ h => ⟨h.1, _, h.2.symm⟩)
    go_wp2
    go_ret
    exact retB hf.out (belowN (alloc_below _ _) _)
  subst hl
  by_cases hn : n = 0
  case neg =>
    have hf : Hid (here ⟨8, n, s⟩ 2 = false) := show here _ _ = false by simp [here, fnum, hn]
    have h1 := int_ne hn
    have h1' : (n != 0) = true := by rw [bne, h1]; rfl
    clear hn
    go_enter Tryd.func26, Tryd.ntmps26
    go_wp2_with fail
    go_quiet (exact (l3Parts_is 8 2 rfl _).mono fun _ _ h => ⟨h.1, _, h.2.symm⟩)
    go_wp2
    go_ret
    exact retB hf.out (belowN (alloc_below _ _) _)
  subst hn
  by_cases hs : s.size = 0
  · have hf : Hid (here ⟨8, 0, s⟩ 2 = true) := show here _ _ = _ by simp [here, fnum, hs]
    have he := str_empty hs
    clear hs
    go_enter Tryd.func26, Tryd.ntmps26
    go_wp2_with fail
    go_quiet (exact (l3Parts_is 8 2 rfl _).mono fun _ _ h => ⟨h.1, _, h.2.symm⟩)
    go_wp2
    go_ret
    exact retB hf.out (belowN (alloc_below _ _) _)
  · have hf : Hid (here ⟨8, 0, s⟩ 2 = false) := show here _ _ = _ by simp [here, fnum, hs]
    have he := str_full hs
    clear hs
    go_enter Tryd.func26, Tryd.ntmps26
    go_wp2_with fail
    go_quiet (exact (l3Parts_is 8 2 rfl _).mono fun _ _ h => ⟨h.1, _, h.2.symm⟩)
    go_wp2
    go_ret
    exact retB hf.out (belowN (alloc_below _ _) _)
set_option maxHeartbeats 1000000 in
set_option maxRecDepth 100000 in
theorem l3Here_0 (k : Int) (hk : ¬ (1 ≤ k ∧ k ≤ 8)) (n : Int) (s : ByteArray) (len : Nat) (hlim : s.size ≤ 281474976710656) (w : World) (a : Option Addr) (c : Nat) : Calls Tryd.prog 26 #[.agg #[.int .i64 k, .int .i64 n, .string s, .slice a len c]] w fun e w' => e = .returned (.bool (here ⟨k, n, s⟩ len)) ∧ Below w.heap.size w w' := by
  have hf : Hid (here ⟨k, n, s⟩ len = false) := show here _ _ = false by
    have : fnum ⟨k, n, s⟩ len = 0 := by
      simp only [fnum]
      rw [if_neg (by omega), if_neg (by omega), if_neg (by omega), if_neg (by omega)]
    simp [here, this]
  have hp : Hid (parts k = -1) := show parts k = -1 by
    unfold parts
    rw [if_neg (by omega), if_neg (by omega), if_neg (by omega)]
  have h1 : ((-1 : Int) == (len : Int)) = false := int_ne (by omega)
  have h1' : ((-1 : Int) != (len : Int)) = true := by rw [bne, h1]; rfl
  clear hk
  go_enter Tryd.func26, Tryd.ntmps26
  go_wp2_with fail
  go_quiet (exact (l3Parts_is k (-1) hp.out _).mono fun _ _ h => ⟨h.1, _, h.2.symm⟩)
  go_wp2
  go_ret
  exact retB hf.out (belowN (alloc_below _ _) _)
theorem l3Here_is (x : X) (hlim : x.h.s.size ≤ 281474976710656) (w : World) (v : Value) (hv : EV w 0 x.l v) : Calls Tryd.prog 26 #[.agg #[.int .i64 x.h.k, .int .i64 x.h.n, .string x.h.s, v]] w fun e w' => e = .returned (.bool (here x.h (elen x.l))) ∧ Below w.heap.size w w' := by
  obtain ⟨a, c, rfl⟩ := hv.shape
  obtain ⟨⟨k, n, s⟩, l⟩ := x
  by_cases hk : 1 ≤ k ∧ k ≤ 8
  · obtain h | h | h | h | h | h | h | h : k = 1 ∨ k = 2 ∨ k = 3 ∨ k = 4 ∨ k = 5 ∨ k = 6 ∨ k = 7 ∨ k = 8 := by omega
    · subst h; exact l3Here_1 n s (elen l) hlim w a c
    · subst h; exact l3Here_2 n s (elen l) hlim w a c
    · subst h; exact l3Here_3 n s (elen l) hlim w a c
    · subst h; exact l3Here_4 n s (elen l) hlim w a c
    · subst h; exact l3Here_5 n s (elen l) hlim w a c
    · subst h; exact l3Here_6 n s (elen l) hlim w a c
    · subst h; exact l3Here_7 n s (elen l) hlim w a c
    · subst h; exact l3Here_8 n s (elen l) hlim w a c
  · exact l3Here_0 k hk n s (elen l) hlim w a c
end Go.Proofs.YtkilmefpaojkfaaDoor
/-
  The contracts of the specification's l3Count and ExpOk.
-/
namespace Go.Proofs.YtkilmefpaojkfaaDoor
open Go.RowKit Go.Lib
set_option linter.unusedSimpArgs false
set_option linter.unusedVariables false

theorem toldF_node (d p q : Nat) (h : EH) (l r : EF) : toldF d (.node p q h l r) = (toldX d ⟨h, l⟩ && toldF d r) := by simp only [toldF, toldX, Bool.and_assoc]
theorem toldX_succ (d : Nat) (x : X) : toldX (d + 1) x = (here x.h (elen x.l) && toldF d x.l) := by simp [toldX]
def okAt (D : Nat) (x : X) : Prop := toldX D x = true ∧ enodes x.l + 1 ≤ 60
structure Cnt (D : Nat) (x : X) (r : Nat) : Prop where
  yes : okAt D x → r = enodes x.l + 1
  no : ¬ okAt D x → 60 < r
  big : r ≤ 100 + 60 * D
/-- Between two rounds. -/
structure CntM (w : World) (D : Nat) (xl R : EF) (k c b o : Nat) : Prop where
  at_ : EIn w 0 R b (o + k * 4)
  num : k + elen R = elen xl
  siz : esize R ≤ 1048576
  low : c ≤ 60 → toldF D xl = toldF D R ∧ c + enodes R = enodes xl + 1
  high : 60 < c → ¬ (toldF D xl = true ∧ enodes xl + 1 ≤ 60)
  big : c ≤ 160 + 60 * D
theorem CntM.next {w : World} {D p q : Nat} {xl : EF} {h : EH} {l r : EF} {k c b o n : Nat} (m : CntM w D xl (.node p q h l r) k c b o) (hc : c ≤ 60) (hn : Cnt D ⟨h, l⟩ n) : CntM w D xl r (k + 1) (c + n) b o := by
  obtain ⟨e1, e2⟩ := m.low hc
  rw [toldF_node] at e1
  have h1 := m.num
  have h2 := m.siz
  simp only [elen, esize, enodes] at h1 h2 e2
  have hb := hn.big
  by_cases hok : okAt D ⟨h, l⟩
  · have hy := hn.yes hok
    have ht := hok.1
    rw [ht, Bool.true_and] at e1
    have hy' : n = enodes l + 1 := hy
    refine ⟨by rw [show o + (k + 1) * 4 = o + k * 4 + 4 by omega]; exact (EIn_node.1 m.at_).2, by omega, by omega, fun _ => ⟨e1, by omega⟩, fun hh => ?_, by omega⟩
    intro ⟨_, g2⟩; omega
  · have hy := hn.no hok
    refine ⟨by rw [show o + (k + 1) * 4 = o + k * 4 + 4 by omega]; exact (EIn_node.1 m.at_).2, by omega, by omega, fun hh => by omega, fun hh => ?_, by omega⟩
    intro ⟨g1, g2⟩
    apply hok
    rw [e1, Bool.and_eq_true] at g1
    exact ⟨g1.1, by show enodes l + 1 ≤ 60; omega⟩
set_option maxHeartbeats 2000000 in
set_option maxRecDepth 100000 in
theorem l3Count_step (D : Nat) (hD : D ≤ 8)
    (ih : ∀ (x : X) (w : World) (v : Value), xsize x ≤ 1048576 → EV w 0 x.l v → D ≤ 7 → Calls Tryd.prog 16 #[.agg #[.int .i64 x.h.k, .int .i64 x.h.n, .string x.h.s, v], .int .i64 (9 - (D : Int))] w fun e w' => ∃ r : Nat, e = .returned (.int .i64 (r : Int)) ∧ Cnt D x r ∧ Below w.heap.size w w')
    (x : X) (w : World) (v : Value) (hs : xsize x ≤ 1048576) (hv : EV w 0 x.l v) (hD7 : D ≤ 7) :
    Calls Tryd.prog 16 #[.agg #[.int .i64 x.h.k, .int .i64 x.h.n, .string x.h.s, v], .int .i64 (8 - (D : Int))] w fun e w' => ∃ r : Nat, e = .returned (.int .i64 (r : Int)) ∧ Cnt (D + 1) x r ∧ Below w.heap.size w w' := by
  have h8 : ¬ (8 : Int) < 8 - (D : Int) := by omega
  have Hih := Lib.hid ih
  have Hv := Lib.hid hv
  obtain ⟨b, o, ao, cap, rfl, hao, _, hin⟩ := hv
  have HI := Lib.hid (And.intro hao hin)
  have hss : x.h.s.size ≤ 281474976710656 := by unfold xsize at hs; omega
  have hse : esize x.l ≤ 1048576 := by unfold xsize at hs; omega
  have HSE := Lib.hid hse
  obtain ⟨tv, htv⟩ : ∃ t, here x.h (elen x.l) = t := ⟨_, rfl⟩
  have Htv := Lib.hid htv
  have Hq : Hid (∀ w, EV w 0 x.l (.slice ao (elen x.l) cap) → Calls Tryd.prog 26 #[.agg #[.int .i64 x.h.k, .int .i64 x.h.n, .string x.h.s, .slice ao (elen x.l) cap]] w fun e w' => e = .returned (.bool tv) ∧ Below w.heap.size w w') := fun w h => by rw [← htv]; exact l3Here_is x hss w _ h
  have hb0 : Below w.heap.size w (w.alloc (.cells #[.int .i64 x.h.k, .int .i64 x.h.n, .string x.h.s, .slice ao (elen x.l) cap] 29)) := alloc_below _ _
  have hln : (elen x.l : Int) ≤ 1048576 := by have := elen_le x.l; have := enodes_le x.l; omega
  have hDI : (D : Int) ≤ 7 := by omega
  clear ih hao hin htv hss hs hse
  go_enter Tryd.func16, Tryd.ntmps16
  go_wp2_with fail
  refine (Hq.out _ (Hv.out.later hb0)).mono ?_
  rintro e w1 ⟨rfl, hb1⟩
  have B1 := hb0.trans (hb1.mono hb0.size)
  cases tv with
  | false =>
    have hno : Hid (¬ okAt (D + 1) x) := show ¬ okAt (D + 1) x by intro h; have := h.1; rw [toldX_succ, Htv.out] at this; cases this
    clear hb0 hb1
    go_wp2
    go_ret
    exact ⟨100, rfl, ⟨fun h => absurd h hno.out, fun _ => by omega, by omega⟩, B1⟩
  | true =>
    have c3 := box_cell (i := 3) hb1 rfl
    have C3 := Lib.hid c3
    have HB1 := Lib.hid B1
    clear hb0 hb1 Hq
    go_wp2
    go_loopw [5, 6] (fun y i wr => ∃ (R : EF) (k c : Nat), i = .int .i64 (k : Int) ∧ y = .int .i64 (c : Int) ∧ Hid (CntM w D x.l R k c b o) ∧ Hid (wr.cell? ⟨w.heap.size, 3, Option.none⟩ = some (.slice ao (elen x.l) cap)) ∧ Below w.heap.size w wr) (fun _ i _ => elen x.l - (RowKit.intOf i).toNat)
    case atStart => exact ⟨x.l, 0, 1, rfl, rfl, ⟨by simpa using HI.out.2, by omega, HSE.out, fun _ => ⟨rfl, by omega⟩, fun h => by omega, by omega⟩, C3, HB1.out⟩
    case round =>
      obtain ⟨R, k, c, rfl, rfl, hm, hc3, hbw⟩ := hrel
      clear c3 C3 B1 HB1
      have c3 := hc3.out
      have hcb := hm.out.big
      have hcI : (c : Int) ≤ 640 := by omega
      cases R with
      | nil =>
        have hk : ¬ (k : Int) < (elen x.l : Int) := by have := hm.out.num; simp only [elen] at this; omega
        go_wp2
        go_ret
        refine ⟨c, rfl, ⟨fun hok => ?_, fun hok => ?_, by omega⟩, hbw⟩
        · rcases Nat.lt_or_ge 60 c with h6 | h6
          · exact absurd ⟨by have := hok.1; rw [toldX_succ, Htv.out, Bool.true_and] at this; exact this, hok.2⟩ (hm.out.high h6)
          · have := (hm.out.low h6).2; simp only [enodes] at this; omega
        · rcases Nat.lt_or_ge 60 c with h6 | h6
          · exact h6
          · obtain ⟨g1, g2⟩ := hm.out.low h6
            exact absurd ⟨by rw [toldX_succ, Htv.out, g1]; rfl, by simp only [enodes] at g2; omega⟩ hok
      | node p q h l r =>
        have hlt : (k : Int) < (elen x.l : Int) := by have := hm.out.num; simp only [elen] at this; omega
        by_cases h6 : (c : Int) ≤ 60
        · have hne : ¬ x.l = .nil := by intro e; have := hm.out.num; rw [e] at this; simp only [elen] at this; omega
          obtain rfl : ao = some ⟨b, o, Option.none⟩ := HI.out.1.resolve_right hne
          obtain ⟨⟨a0, a1, a2, u, a3, hu⟩, _⟩ := EIn_node.1 (EIn_later hbw _ _ _ hm.out.at_)
          have hsz : xsize ⟨h, l⟩ ≤ 1048576 := by have := hm.out.siz; simp only [esize] at this; unfold xsize; simp only; omega
          have Hl := Lib.hid (fun w v => Hih.out ⟨h, l⟩ w v hsz)
          have HU := Lib.hid hu
          have Hd7 := Lib.hid hD7
          have h9 : (8 : Int) - (D : Int) + 1 = 9 - (D : Int) := by omega
          clear hne hsz hu hcb
          go_wp2_with fail
          refine (Hl.out _ u HU.out Hd7.out).mono ?_
          rintro e w2 ⟨rr, rfl, hrr, hb2⟩
          have hbw2 := hbw.trans (hb2.mono hbw.size)
          have hm2 := Lib.hid (hm.out.next (by omega) hrr)
          have hrb : (rr : Int) ≤ 640 := by have := hrr.big; omega
          have hc32 := Lib.hid (keeps hb2 c3)
          clear hb2 hbw a0 a1 a2 a3 hrr c3 hc3 h9
          go_wp2
          go_roundw
          case rel => exact ⟨r, k + 1, c + rr, by go_num, by go_num, hm2, hc32, hbw2⟩
          case measure => simp [RowKit.intOf]; omega
        · go_wp2
          go_ret
          have h6' : 60 < c := by omega
          refine ⟨c, rfl, ⟨fun hok => ?_, fun _ => h6', by omega⟩, hbw⟩
          exact absurd ⟨by have := hok.1; rw [toldX_succ, Htv.out, Bool.true_and] at this; exact this, hok.2⟩ (hm.out.high h6')
set_option maxRecDepth 100000 in
theorem l3Count_zero (x : X) (w : World) (v : Value) : Calls Tryd.prog 16 #[.agg #[.int .i64 x.h.k, .int .i64 x.h.n, .string x.h.s, v], .int .i64 9] w fun e w' => ∃ r : Nat, e = .returned (.int .i64 (r : Int)) ∧ Cnt 0 x r ∧ Below w.heap.size w w' := by
  go_enter Tryd.func16, Tryd.ntmps16
  go_wp2
  go_ret
  exact ⟨100, rfl, ⟨fun h => absurd h.1 (by simp [toldX]), fun _ => by omega, by omega⟩, alloc_below _ _⟩
theorem l3Count_all : ∀ (D : Nat), D ≤ 8 → ∀ (x : X) (w : World) (v : Value), xsize x ≤ 1048576 → EV w 0 x.l v → Calls Tryd.prog 16 #[.agg #[.int .i64 x.h.k, .int .i64 x.h.n, .string x.h.s, v], .int .i64 (9 - (D : Int))] w fun e w' => ∃ r : Nat, e = .returned (.int .i64 (r : Int)) ∧ Cnt D x r ∧ Below w.heap.size w w'
  | 0, _, x, w, v, _, _ => l3Count_zero x w v
  | D + 1, h, x, w, v, hs, hv => by
    have e : (9 : Int) - ((D + 1 : Nat) : Int) = 8 - (D : Int) := by omega
    rw [e]
    exact l3Count_step D (by omega) (fun x w v a b _ => l3Count_all D (by omega) x w v a b) x w v hs hv (by omega)
set_option maxRecDepth 100000 in
theorem spec_ExpOk (x : X) (hs : xsize x ≤ 1048576) (w : World) (v : Value) (hv : EV w 0 x.l v) :
    Calls Tryd.prog 10 #[.agg (xcells x v).toArray] w fun e w' => e = .returned (.bool (expOk x)) ∧ Below w.heap.size w w' := by
  show Calls Tryd.prog 10 #[.agg #[.int .i64 x.h.k, .int .i64 x.h.n, .string x.h.s, v]] w _
  have Hv := Lib.hid hv
  obtain ⟨va, vc, rfl⟩ := hv.shape
  have hb0 : Below w.heap.size w (w.alloc (.cells #[.int .i64 x.h.k, .int .i64 x.h.n, .string x.h.s, .slice va (elen x.l) vc] 29)) := alloc_below _ _
  have Hs := Lib.hid hs
  clear hv hs
  go_enter Tryd.func10, Tryd.ntmps10
  go_wp2_with fail
  refine (l3Count_all 8 (by omega) x _ _ Hs.out (Hv.out.later hb0)).mono ?_
  rintro e w1 ⟨r, rfl, hr, hb1⟩
  have B1 := hb0.trans (hb1.mono hb0.size)
  have Hr := Lib.hid hr
  clear hb0 hb1 hr
  by_cases hok : okAt 8 x
  · have h6 : (r : Int) ≤ 60 := by have := Hr.out.yes hok; have := hok.2; omega
    have Hok := Lib.hid hok
    clear hok
    go_wp2
    go_ret
    exact retB (by rw [expOk, Hok.out.1, decide_eq_true Hok.out.2]; rfl) B1
  · have h6 : ¬ (r : Int) ≤ 60 := by have := Hr.out.no hok; omega
    have hf : Hid (expOk x = false) := show expOk x = false by
      cases e : expOk x with
      | false => rfl
      | true =>
        unfold expOk at e
        rw [Bool.and_eq_true, decide_eq_true_eq] at e
        exact absurd e hok
    clear hok
    go_wp2
    go_ret
    exact retB (by rw [hf.out]; symm; first | rfl | (simp; omega)) B1
end Go.Proofs.YtkilmefpaojkfaaDoor
/-
  The contracts of the landed code's partText and ExpText, and of the specification's ExpText.
-/
namespace Go.Proofs.YtkilmefpaojkfaaDoor
open Go.RowKit Go.Lib
set_option linter.unusedSimpArgs false
set_option linter.unusedVariables false

set_option maxHeartbeats 1000000 in
set_option maxRecDepth 100000 in
theorem partText_step (d : Nat) (ih : PartC d) : PartC (d + 1) := by
  intro x hx hn w v hv hT
  show Calls Tryd.prog 14 #[.agg #[.int .i64 x.h.k, .int .i64 x.h.n, .string x.h.s, v]] w _
  have Hv := Lib.hid hv
  have HT := Lib.hid hT
  have Hih := Lib.hid ih
  have Hx := Lib.hid hx
  have hb0 : Below w.heap.size w (w.alloc (.cells #[.int .i64 x.h.k, .int .i64 x.h.n, .string x.h.s, v] 29)) := alloc_below _ _
  have Hq : Hid (∀ w, EV w 0 x.l v → Calls Tryd.prog 22 #[.agg #[.int .i64 x.h.k, .int .i64 x.h.n, .string x.h.s, v]] w fun e w' => ∃ fv, e = .returned fv ∧ FormIs w x fv ∧ Below w.heap.size w w') := fun w hv => formOf_is x w v hv
  clear ih hv hT hx
  go_enter Tryd.func14, Tryd.ntmps14
  go_wp2_with fail
  refine (Hq.out _ (Hv.out.later hb0)).mono ?_
  rintro e w1 ⟨fv, rfl, hform, hb1⟩
  have B1 := Lib.hid (hb0.trans (hb1.mono hb0.size))
  have Hb1 := Lib.hid hb1
  have ck := box_cell (i := 0) hb1 rfl
  clear hb0 hb1 Hq
  rcases hform with ⟨hf, rfl⟩ | ⟨hf, rfl⟩ | ⟨hf, p, q, y, u, hl, hu, rfl⟩ | ⟨hf, p, q, p', q', y, z, u, u', hl, hu, hu', rfl⟩ | ⟨hf, rfl⟩
  · have hx1 := Hx.out
    rw [toldX_num hf] at hx1
    simp only [Bool.and_eq_true, decide_eq_true_eq] at hx1
    have E := Lib.hid (xT_num (elen_zero (fnum_num hf).2) (fnum_num hf).1)
    have q1 := as_nn
    have CN := Lib.hid (fun W (hb : Below w1.heap.size w1 W) => impl_NumText x.h.n (by omega) (by omega) W ((HT.out.later B1.out).later hb))
    clear hf hx1 ck
    go_wp2_with fail
    refine (CN.out _ (alloc_below _ _)).mono ?_
    rintro e w2 ⟨rfl, hb2⟩
    have B2 := Lib.hid (B1.out.trans ((below_alloc hb2).mono B1.out.size))
    clear hb2 CN
    go_wp2
    go_ret
    exact ⟨ret_str (by rw [E.out]; rfl), B2.out⟩
  · have E := Lib.hid (xT_var (elen_zero (fnum_var hf).2) (fnum_var hf).1)
    have q1 := as_vn
    have q2 := as_vv
    have hx1 := Hx.out
    rw [toldX_var hf] at hx1
    have hs : x.h.s.size ≤ 6 := by
      unfold nameOk at hx1
      simp only [Bool.and_eq_true, decide_eq_true_eq] at hx1
      simpa using hx1.1.1.2
    have hsl : x.h.s.data.toList.length = x.h.s.size := by simp
    have CJ := Lib.hid (fun (W : World) => joined_is [x.h.s] (by simp) (by simp only [catT, List.append_nil]; omega) _ _ (TV.new W [x.h.s] 9 1 1 rfl))
    have EC := Lib.hid (show catT [x.h.s] = xT x by rw [E.out]; simp [catT])
    rw [EC.out] at CJ
    have CJ2 : Hid (Calls Tryd.prog 24 #[.slice (some ⟨w1.heap.size + 1, 0, Option.none⟩) 1 1] ((w1.alloc (.cells #[.string x.h.s] 49)).alloc (.cells #[.string x.h.s] 9)) fun e w' => e = .returned (.string (str (xT x))) ∧ Below ((w1.alloc (.cells #[.string x.h.s] 49)).alloc (.cells #[.string x.h.s] 9)).heap.size ((w1.alloc (.cells #[.string x.h.s] 49)).alloc (.cells #[.string x.h.s] 9)) w') := Lib.hid (by
      have := CJ.out (w1.alloc (.cells #[.string x.h.s] 49))
      rw [World.size_alloc] at this
      exact this)
    clear hf hx1 hs hsl ck CJ
    go_wp2_with fail
    refine CJ2.out.mono ?_
    rintro e w2 ⟨rfl, hb2⟩
    have B2 := Lib.hid (B1.out.trans ((below_alloc (below_alloc hb2)).mono B1.out.size))
    clear hb2 CJ2
    go_wp2
    go_ret
    exact ⟨rfl, B2.out⟩
  · have hx1 := Hx.out
    rw [toldX_at hf hl, Bool.and_eq_true] at hx1
    have hs : x.h.s.size ≤ 6 := by
      have h1 := hx1.1
      unfold nameOk at h1
      simp only [Bool.and_eq_true, decide_eq_true_eq] at h1
      simpa using h1.1.1.2
    have hsl : x.h.s.data.toList.length = x.h.s.size := by simp
    have hny : enodes y.l ≤ 100 := by rw [hl] at hn; simp only [enodes] at hn; omega
    have hlen := xT_len d y hx1.2
    have q1 := as_an
    have q2 := as_av
    have q3 := as_aa
    obtain ⟨T, HTT⟩ : ∃ T, Hid (str (xT y) = T) := ⟨_, rfl⟩
    have hTl : T.data.toList = xT y := by rw [← HTT.out, str_list]
    have EQ := Lib.hid (show catT [x.h.s, ⟨#[91]⟩, T, ⟨#[93]⟩] = xT x by rw [xT_at hl]; simp only [catT, hTl]; simp)
    have hxl := xT_len (d + 1) x Hx.out
    have CJ := Lib.hid (fun (W : World) => joined_is [x.h.s, ⟨#[91]⟩, T, ⟨#[93]⟩] (by simp) (by rw [EQ.out]; omega) _ _ (TV.new W [x.h.s, ⟨#[91]⟩, T, ⟨#[93]⟩] 9 4 4 rfl))
    rw [EQ.out] at CJ
    obtain ⟨w2, W2⟩ : ∃ w2, Hid (w2 = w1.alloc (.cells #[.string x.h.s, .int .i64 y.h.k, .int .i64 y.h.n, .string y.h.s, u] 52)) := ⟨_, rfl⟩
    have RA := show w2.rangeAt w1.heap.size 0 [.string x.h.s, .int .i64 y.h.k, .int .i64 y.h.n, .string y.h.s, u] by rw [W2.out]; exact new_range w1 #[.string x.h.s, .int .i64 y.h.k, .int .i64 y.h.n, .string y.h.s, u] 52
    have RS := Lib.hid (show w2.cell? ⟨w1.heap.size, 0, Option.none⟩ = some (.string x.h.s) from RA 0 _ rfl)
    have RY := Lib.hid (show w2.rangeAt w1.heap.size 1 (xcells y u) from x_range (x := y) (RA 1 _ rfl) (RA 2 _ rfl) (RA 3 _ rfl) (RA 4 _ rfl))
    have B2 := Lib.hid (show Below w1.heap.size w1 w2 by rw [W2.out]; exact alloc_below _ _)
    have CY : Hid (∀ w', Below w2.heap.size w2 w' → Calls Tryd.prog 14 #[.agg (xcells y u).toArray] w' fun e w'' => e = .returned (.string T) ∧ Below w'.heap.size w' w'') := Lib.hid (fun w' hb => by rw [← HTT.out]; exact Hih.out y hx1.2 hny w' u (((hu.later Hb1.out).later B2.out).later hb) (((HT.out.later B1.out).later B2.out).later hb))
    have bd : Below w2.heap.size w2 w2.drew := (Below.refl _ w2).drew
    obtain ⟨ua, uc, rfl⟩ := hu.shape
    clear hf hx1 hs hsl hny hlen hTl hxl RA hu hl ck
    go_wp2_with fail
    rw [← W2.out]
    clear W2
    refine wp_region_held_drew (S := Below w2.heap.size w2) (by kernel_rfl) bd (fun hHeld => ?_)
    refine wpAnyH_take (i := 0) (v := .pointer (some ⟨w1.heap.size, 0, Option.none⟩)) rfl (by kernel_rfl) (by kernel_rfl) (by kernel_rfl) (fun _ _ _ h => h) (Or.inl ⟨by rfl, ?ya0⟩) hHeld ?_
    case ya0 => intro w hSw; go_simp
    simp only [Act.put, List.getElem_toArray, List.getElem_cons_succ, List.getElem_cons_zero, List.setIfInBounds_toArray, List.set_cons_zero, List.set_cons_succ]
    refine wpAnyH_take (i := 1) (v := .string x.h.s) rfl (by kernel_rfl) (by kernel_rfl) (by kernel_rfl) (fun _ _ _ h => h) (Or.inl ⟨by rfl, ?ya1⟩) hHeld ?_
    case ya1 => intro w hSw; have q := keeps hSw RS.out; go_simp
    simp only [Act.put, List.getElem_toArray, List.getElem_cons_succ, List.getElem_cons_zero, List.setIfInBounds_toArray, List.set_cons_zero, List.set_cons_succ]
    refine wpAnyH_take (i := 2) (v := .pointer (some ⟨w1.heap.size, 1, Option.none⟩)) rfl (by kernel_rfl) (by kernel_rfl) (by kernel_rfl) (fun _ _ _ h => h) (Or.inl ⟨by rfl, ?ya2⟩) hHeld ?_
    case ya2 => intro w hSw; go_simp
    simp only [Act.put, List.getElem_toArray, List.getElem_cons_succ, List.getElem_cons_zero, List.setIfInBounds_toArray, List.set_cons_zero, List.set_cons_succ]
    refine wpAnyH_take (i := 3) (v := .agg (xcells y (.slice ua (elen y.l) uc)).toArray) rfl (by kernel_rfl) (by kernel_rfl) (by kernel_rfl) (fun _ _ _ h => h) (yieldsIf_load_mid (by rfl) 29 _ rfl (w1.heap.size) (1) rfl (xcells y (.slice ua (elen y.l) uc)) _ (fun w h => rangeAt_later RY.out h) Tryd.underlying29 rfl sizeIE2) hHeld ?_
    simp only [Act.put, List.getElem_toArray, List.getElem_cons_succ, List.getElem_cons_zero, List.setIfInBounds_toArray, List.set_cons_zero, List.set_cons_succ]
    refine wpAnyH_ready (rs := [4]) (by kernel_rfl) (by simp) ?_
    refine AllReadyH.cons rfl (fun K hK => ?_) AllReadyH.nil
    rw [if_pos (by rfl)]
    simp only [List.getElem_toArray, List.getElem_cons_succ, List.getElem_cons_zero]
    go_wp2_with fail
    refine (CY.out _ hHeld).mono ?_
    rintro e w5 ⟨rfl, hb5⟩
    go_wp2_with fail
    refine hK.out _ _ (hHeld.trans (hb5.mono hHeld.size)) (fun hHeld => ?_)
    refine wpAnyH_ready (rs := [5]) (by kernel_rfl) (by simp) ?_
    refine AllReadyH.cons rfl (fun K hK => ?_) AllReadyH.nil
    rw [if_pos (by rfl)]
    simp only [List.getElem_toArray, List.getElem_cons_succ, List.getElem_cons_zero]
    go_wp2_with fail
    refine hK.out _ _ (hHeld.alloc hHeld.size _) (fun hHeld => ?_)
    try simp only [Act.put, List.getElem_toArray, List.getElem_cons_succ, List.getElem_cons_zero, List.setIfInBounds_toArray, List.set_cons_zero, List.set_cons_succ]
    refine wpAnyH_ready (rs := [6]) (by kernel_rfl) (by simp) ?_
    refine AllReadyH.cons rfl (fun K hK => ?_) AllReadyH.nil
    rw [if_pos (by rfl)]
    simp only [List.getElem_toArray, List.getElem_cons_succ, List.getElem_cons_zero]
    go_wp2_with fail
    refine (CJ.out w5).mono ?_
    rintro e w7 ⟨rfl, hb7⟩
    go_wp2_with fail
    refine hK.out _ _ (hHeld.trans (hb7.mono hHeld.size)) (fun hHeld => ?_)
    refine wpAnyH_take (i := 7) (v := .string (str (xT x))) rfl (by kernel_rfl) (by kernel_rfl) (by kernel_rfl) (fun _ _ _ h => h) (Or.inl ⟨by rfl, ?ya7⟩) hHeld ?_
    case ya7 => intro w hSw; go_simp
    simp only [Act.put, List.getElem_toArray, List.getElem_cons_succ, List.getElem_cons_zero, List.setIfInBounds_toArray, List.set_cons_zero, List.set_cons_succ]
    refine wpAnyH_done (by kernel_rfl) ?_ _
    have BB := Lib.hid (B1.out.trans ((B2.out.trans (hHeld.mono B2.out.size)).mono B1.out.size))
    clear hHeld bd
    go_wp2
    go_ret
    exact ⟨rfl, BB.out⟩
  · have hx1 := Hx.out
    rw [toldX_pair hf hl, Bool.and_eq_true] at hx1
    have hkk := (fnum_pair hf).1
    have hnyz : enodes y.l ≤ 100 ∧ enodes z.l ≤ 100 := by rw [hl] at hn; simp only [enodes] at hn; omega
    have q1 := as_pn
    have q2 := as_pv
    have q3 := as_pa
    have q4 := as_pp
    have ck2 : ∀ o, (w1.alloc o).cell? ⟨w.heap.size, 0, Option.none⟩ = some (.int .i64 x.h.k) := fun o => keeps (alloc_below _ _) ck
    have E := Lib.hid (xT_pair hl)
    obtain ⟨w2, W2⟩ : ∃ w2, Hid (w2 = w1.alloc (.cells #[.int .i64 y.h.k, .int .i64 y.h.n, .string y.h.s, u, .int .i64 z.h.k, .int .i64 z.h.n, .string z.h.s, u'] 54)) := ⟨_, rfl⟩
    have B2 := Lib.hid (show Below w1.heap.size w1 w2 by rw [W2.out]; exact alloc_below _ _)
    have CP := Lib.hid (pairText_is d Hih.out x.h.k hkk y z hx1.1 hx1.2 hnyz.1 hnyz.2 w2 u u' ((hu.later Hb1.out).later B2.out) ((hu'.later Hb1.out).later B2.out) ((HT.out.later B1.out).later B2.out))
    rw [← E.out, W2.out] at CP
    obtain ⟨ua, uc, rfl⟩ := hu.shape
    obtain ⟨ub, ud, rfl⟩ := hu'.shape
    clear hf hx1 hkk hnyz hu hu' hl
    go_wp2_with fail
    refine CP.out.mono ?_
    rintro e w3 ⟨rfl, hb3⟩
    have BB := Lib.hid (B1.out.trans ((below_alloc hb3).mono B1.out.size))
    clear hb3 CP
    go_wp2
    go_ret
    exact ⟨rfl, BB.out⟩
  · exfalso
    have hx1 := Hx.out
    simp only [toldX, here, hf, Bool.false_and, Bool.and_false] at hx1
    cases hx1
theorem partText_all : ∀ d, PartC d
  | 0 => fun x h => by rw [toldX_zero] at h; cases h
  | d + 1 => partText_step d (partText_all d)
/-- What ExpText answers. -/
def expT (x : X) : List UInt8 := if expOk x = true then xT x else []
theorem expOk_told {x : X} (h : expOk x = true) : toldX 8 x = true ∧ enodes x.l ≤ 100 := by
  unfold expOk at h
  rw [Bool.and_eq_true, decide_eq_true_eq] at h
  exact ⟨h.1, by omega⟩
set_option maxHeartbeats 1000000 in
set_option maxRecDepth 100000 in
theorem spec_ExpText (x : X) (hs : xsize x ≤ 1048576) (w : World) (v : Value) (hv : EV w 0 x.l v)  :
    Calls Tryd.prog 5 #[.agg (xcells x v).toArray] w fun e w' => e = .returned (.string (str (expT x))) ∧ Below w.heap.size w w' := by
  have B := Lib.hid (alloc_below w (.cells (xcells x v).toArray 29))
  have R0 := Lib.hid (show (w.alloc (.cells (xcells x v).toArray 29)).rangeAt w.heap.size 0 (xcells x v) from new_range w (xcells x v).toArray 29)
  obtain ⟨b, Hb⟩ : ∃ b, Hid (expOk x = b) := ⟨_, rfl⟩
  have CO := Lib.hid (spec_ExpOk x hs _ v (hv.later B.out))
  rw [Hb.out] at CO
  have CP : Hid (b = true → ∀ w', EV w' 0 x.l v → Calls Tryd.prog 11 #[.agg (xcells x v).toArray] w' fun e w'' => e = .returned (.string (str (xT x))) ∧ Below w'.heap.size w' w'') := Lib.hid (fun hbt w' h => by have hb := Hb.out.trans hbt; exact l6Exp_all 8 x (expOk_told hb).1 (expOk_told hb).2 w' v h)
  have HV := Lib.hid hv
  skip
  clear hv 
  show Calls Tryd.prog 5 #[.agg #[.int .i64 x.h.k, .int .i64 x.h.n, .string x.h.s, v]] w _
  go_enter Tryd.func5, Tryd.ntmps5
  go_wp2_with fail
  refine CO.out.mono ?_
  rintro e w1 ⟨rfl, hb1⟩
  have B1 := Lib.hid (below_alloc hb1)
  have R1 := Lib.hid (rangeAt_later R0.out hb1)
  clear hb1 CO
  cases b with
  | false =>
    have E := Lib.hid (show expT x = [] by unfold expT; rw [Hb.out]; rfl)
    go_wp2
    go_ret
    exact ⟨ret_str (by rw [E.out]; rfl), B1.out⟩
  | true =>
    have E := Lib.hid (show expT x = xT x by unfold expT; rw [Hb.out]; rfl)
    go_wp2_with (refine wpList_load_mid rfl 29 _ rfl w.heap.size 0 rfl _ _ R1.out Tryd.underlying29 rfl sizeIE2 ?_)
    refine (CP.out (by first | exact rfl | trivial) _ (HV.out.later B1.out)).mono ?_
    rintro e w2 ⟨rfl, hb2⟩
    have B2 := Lib.hid (B1.out.trans (hb2.mono B1.out.size))
    clear hb2 CP
    go_wp2
    go_ret
    exact ⟨ret_str (by rw [E.out]), B2.out⟩
set_option maxHeartbeats 1000000 in
set_option maxRecDepth 100000 in
theorem impl_ExpText (x : X) (hs : xsize x ≤ 1048576) (w : World) (v : Value) (hv : EV w 0 x.l v) (hT : TabT w) :
    Calls Tryd.prog 7 #[.agg (xcells x v).toArray] w fun e w' => e = .returned (.string (str (expT x))) ∧ Below w.heap.size w w' := by
  have B := Lib.hid (alloc_below w (.cells (xcells x v).toArray 29))
  have R0 := Lib.hid (show (w.alloc (.cells (xcells x v).toArray 29)).rangeAt w.heap.size 0 (xcells x v) from new_range w (xcells x v).toArray 29)
  obtain ⟨b, Hb⟩ : ∃ b, Hid (expOk x = b) := ⟨_, rfl⟩
  have CO := Lib.hid (impl_ExpOk x (by have := enodes_le x.l; unfold xsize at hs; omega) _ v (hv.later B.out))
  rw [Hb.out] at CO
  have CP : Hid (b = true → ∀ w', EV w' 0 x.l v → TabT w' → Calls Tryd.prog 14 #[.agg (xcells x v).toArray] w' fun e w'' => e = .returned (.string (str (xT x))) ∧ Below w'.heap.size w' w'') := Lib.hid (fun hbt w' h h2 => by have hb := Hb.out.trans hbt; exact partText_all 8 x (expOk_told hb).1 (expOk_told hb).2 w' v h h2)
  have HV := Lib.hid hv
  have HT := Lib.hid hT
  clear hv hT
  show Calls Tryd.prog 7 #[.agg #[.int .i64 x.h.k, .int .i64 x.h.n, .string x.h.s, v]] w _
  go_enter Tryd.func7, Tryd.ntmps7
  go_wp2_with fail
  refine CO.out.mono ?_
  rintro e w1 ⟨rfl, hb1⟩
  have B1 := Lib.hid (below_alloc hb1)
  have R1 := Lib.hid (rangeAt_later R0.out hb1)
  clear hb1 CO
  cases b with
  | false =>
    have E := Lib.hid (show expT x = [] by unfold expT; rw [Hb.out]; rfl)
    go_wp2
    go_ret
    exact ⟨ret_str (by rw [E.out]; rfl), B1.out⟩
  | true =>
    have E := Lib.hid (show expT x = xT x by unfold expT; rw [Hb.out]; rfl)
    go_wp2_with (refine wpList_load_mid rfl 29 _ rfl w.heap.size 0 rfl _ _ R1.out Tryd.underlying29 rfl sizeIE2 ?_)
    refine (CP.out (by first | exact rfl | trivial) _ (HV.out.later B1.out) (HT.out.later B1.out)).mono ?_
    rintro e w2 ⟨rfl, hb2⟩
    have B2 := Lib.hid (B1.out.trans (hb2.mono B1.out.size))
    clear hb2 CP
    go_wp2
    go_ret
    exact ⟨ret_str (by rw [E.out]), B2.out⟩
end Go.Proofs.YtkilmefpaojkfaaDoor
/-
  Expressions and statements that came in, opened into trees.
-/
namespace Go.Proofs.YtkilmefpaojkfaaDoor
open Go.ChangeShapes Go.WideShapes Go.ChangeAt Go.RowKit
set_option linter.unusedSimpArgs false
set_option linter.unusedVariables false

theorem cE : Tryd.prog.cellsOf 24 = 4 := by kernel_rfl
theorem cI : Tryd.prog.cellsOf 3 = 1 := by kernel_rfl
theorem cT : Tryd.prog.cellsOf 9 = 1 := by kernel_rfl
theorem cEs : Tryd.prog.cellsOf 22 = 1 := by kernel_rfl
theorem part_get {cs xs : List Value} {o n : Nat} (h : (cs.drop o).take n = xs) : ∀ j u, xs[j]? = some u → cs[o + j]? = some u := by
  intro j u hj
  rw [← h, List.getElem?_take] at hj
  split at hj
  · rw [List.getElem?_drop] at hj; exact hj
  · cases hj
theorem build_exps {W : World} {b o len : Nat} (each : ∀ i, i < len → ∃ x : X, xok x ∧ XC W 0 x b (o + i * 4)) : ∀ d, d ≤ len → ∃ R : EF, elen R = d ∧ eok R ∧ EIn W 0 R b (o + (len - d) * 4)
  | 0, _ => ⟨.nil, rfl, trivial, trivial⟩
  | d + 1, hd => by
    obtain ⟨R, h1, h2, h3⟩ := build_exps each d (by omega)
    obtain ⟨x, k, hx⟩ := each (len - (d + 1)) (by omega)
    refine ⟨.node 0 0 x.h x.l R, by simp only [elen]; omega, ⟨k.1, k.2.1, k.2.2, h2⟩, EIn_node.2 ⟨hx, ?_⟩⟩
    rw [show o + (len - (d + 1)) * 4 + 4 = o + (len - d) * 4 by omega]; exact h3
theorem build_stmts {W : World} {b o len : Nat} (each : ∀ i, i < len → ∃ (h : SH) (l : SF), (h.s.size ≤ 9223372036854775807 ∧ xok h.x1 ∧ xok h.x2 ∧ xok h.x3 ∧ xok h.x4 ∧ slen l ≤ 9223372036854775807 ∧ sok l) ∧ SC W 0 h l b (o + i * 19)) : ∀ d, d ≤ len → ∃ R : SF, slen R = d ∧ sok R ∧ SIn W 0 R b (o + (len - d) * 19)
  | 0, _ => ⟨.nil, rfl, trivial, trivial⟩
  | d + 1, hd => by
    obtain ⟨R, h1, h2, h3⟩ := build_stmts each d (by omega)
    obtain ⟨h, l, ⟨k1, k2, k3, k4, k5, k6, k7⟩, hx⟩ := each (len - (d + 1)) (by omega)
    refine ⟨.node 0 0 h l R, by simp only [slen]; omega, ⟨k1, k2, k3, k4, k5, k6, k7, h2⟩, SIn_node.2 ⟨hx, ?_⟩⟩
    rw [show o + (len - (d + 1)) * 19 + 19 = o + (len - d) * 19 by omega]; exact h3
section
variable {H : Type} {enc : TypeId × Value → H} {W : World} {sp : Nat → Bool} {held : Bool}
set_option maxRecDepth 100000 in
theorem open_exp_of {fuel : Nat} {cs : List Value} {y : DataW H × List MemPlace}
    (ih : ∀ m, m < fuel → ∀ (cs : List Value) (x : DataW H × List MemPlace), DataW.trod enc Tryd.prog W 0 sp held m 22 cs = some x → ∃ (v : Value) (F : EF), cs = [v] ∧ eok F ∧ elen F ≤ 9223372036854775807 ∧ EV W 0 F v)
    (h : DataW.trod enc Tryd.prog W 0 sp held fuel 24 cs = some y) : ∃ (x : X) (v : Value), cs = xcells x v ∧ xok x ∧ EV W 0 x.l v := by
  obtain ⟨xs, m, hm, _, hlen, hxl, hf⟩ := DataW.trod_struct Tryd.underlying24 h
  rw [cE] at hlen
  match xs, hxl, cs, hlen with
  | [y0, y1, y2, y3], _, [v0, v1, v2, v3], _ =>
    have g0 := hf 0 _ rfl
    have g1 := hf 1 _ rfl
    have g2 := hf 2 _ rfl
    have g3 := hf 3 _ rfl
    simp [cI, cT, cEs] at g0 g1 g2 g3
    obtain ⟨k, e0, _, _⟩ := DataW.trod_int Tryd.underlying3 g0
    obtain ⟨n, e1, _, _⟩ := DataW.trod_int Tryd.underlying3 g1
    obtain ⟨s, e2, _, hs⟩ := DataW.trod_string Tryd.underlying9 g2
    obtain ⟨v, F, e3, k1, k2, k3⟩ := ih m (by omega) _ _ g3
    injection e0 with e0; injection e1 with e1; injection e2 with e2; injection e3 with e3
    subst e0; subst e1; subst e2; subst e3
    exact ⟨⟨⟨k, n, s⟩, F⟩, v3, rfl, ⟨by unfold maxLen at hs; show s.size ≤ _; omega, k2, k1⟩, k3⟩
theorem open_exps : ∀ (fuel : Nat) (cs : List Value) (x : DataW H × List MemPlace), DataW.trod enc Tryd.prog W 0 sp held fuel 22 cs = some x → ∃ (v : Value) (F : EF), cs = [v] ∧ eok F ∧ elen F ≤ 9223372036854775807 ∧ EV W 0 F v := by
  intro fuel
  induction fuel using Nat.strongRecOn with
  | _ fuel ih =>
    intro cs x h
    rcases DataW.trod_slice Tryd.underlying22 h with ⟨rfl, _⟩ | ⟨a, len, cap, elems, rest, n, hn, rfl, _, _, hl, hmx, hlen, hel, _, _⟩
    · exact ⟨_, .nil, rfl, trivial, by simp [elen], EV.nil _ _ _ _⟩
    · rw [cE] at hel
      have each : ∀ i, i < len → ∃ (cs' : List Value) (y : DataW H × List MemPlace), W.cells? 0 (a.add (i * 4)) 4 = some cs' ∧ DataW.trod enc Tryd.prog W 0 sp held n 24 cs' = some y := fun i hi => by
        have h1 := hel i hi
        rw [List.getElem?_eq_getElem (by omega), Option.bind_eq_some_iff] at h1
        obtain ⟨cs', h2, h3⟩ := h1
        exact ⟨cs', _, h2, h3⟩
      rcases Nat.eq_zero_or_pos len with h0 | h0
      · subst h0; exact ⟨_, .nil, rfl, trivial, by simp [elen], EV.nil _ _ _ _⟩
      · have each2 : ∀ i, i < len → ∃ (x : X) (v : Value), xok x ∧ EV W 0 x.l v ∧ ∀ j u, (xcells x v)[j]? = some u → W.cell? ((a.add (i * 4)).add j) = some u := fun i hi => by
          obtain ⟨cs', y, h1, h2⟩ := each i hi
          obtain ⟨_, hc, hcell⟩ := World.cells?_some h1
          obtain ⟨x, v, rfl, k1, k2⟩ := open_exp_of (fun m hm cs x h => ih m (by omega) cs x h) h2
          refine ⟨x, v, k1, k2, fun j u hj => ?_⟩
          have hj4 : j < 4 := by have := (List.getElem?_eq_some_iff.1 hj).1; simpa [xcells] using this
          rw [hcell j hj4]; exact hj
        obtain ⟨b, off, spot⟩ := a
        have hsp : spot = Option.none := by
          obtain ⟨x, v, _, _, hc⟩ := each2 0 h0
          have := World.cell?_spot (hc 0 _ rfl)
          simpa [Addr.add] using this
        subst hsp
        have e : ∀ i j, ((⟨b, off, Option.none⟩ : Addr).add i).add j = ⟨b, off + i + j, Option.none⟩ := fun i j => by rw [add_plain, add_plain]
        obtain ⟨R, r1, r2, r3⟩ := build_exps (W := W) (b := b) (o := off) (len := len) (fun i hi => by
          obtain ⟨x, v, k1, k2, hc⟩ := each2 i hi
          have c0 := hc 0 _ rfl; have c1 := hc 1 _ rfl; have c2 := hc 2 _ rfl; have c3 := hc 3 _ rfl
          rw [e] at c0 c1 c2 c3
          exact ⟨x, k1, c0, c1, c2, v, c3, k2⟩) len (Nat.le_refl _)
        rw [Nat.sub_self, Nat.zero_mul, Nat.add_zero] at r3
        refine ⟨_, R, rfl, r2, by unfold maxLen at hmx; omega, b, off, _, cap, by rw [r1], .inl rfl, Nat.zero_le _, r3⟩
theorem open_exp {fuel : Nat} {cs : List Value} {y : DataW H × List MemPlace} (h : DataW.trod enc Tryd.prog W 0 sp held fuel 24 cs = some y) : ∃ (x : X) (v : Value), cs = xcells x v ∧ xok x ∧ EV W 0 x.l v :=
  open_exp_of (fun m _ cs x h => open_exps m cs x h) h
end
end Go.Proofs.YtkilmefpaojkfaaDoor
