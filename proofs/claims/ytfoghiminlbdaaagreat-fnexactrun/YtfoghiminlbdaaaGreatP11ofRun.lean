/-
  Texts in one: AstExpOk, AstHere, AstCnt, EvVal, RunPlain.
-/
import Derived.Test.YtfoghiminlbdaaaGreatP10ofRun
import Derived.BigQuiet
import Derived.Deep.QuietTactic
import Derived.Test.YtfoghiminlbdaaaGreatP08ofRun
namespace Go.Proofs.YtfoghiminlbdaaaGreat
open Go.RowKit Go.Lib
set_option linter.unusedSimpArgs false
set_option linter.unusedVariables false
theorem new_range (w : World) (arr : Array Value) (t : TypeId) : (w.alloc (.cells arr t)).rangeAt w.heap.size 0 arr.toList := blk_range (t := t) (fr := (0, 0)) (by show (w.heap.push _)[w.heap.size]? = _; simp)
def expOk (x : X) : Bool := toldX 8 x && decide (enodes x.l + 1 ≤ 60)
set_option maxHeartbeats 1000000 in
set_option maxRecDepth 100000 in
theorem impl_ExpOk (x : X) (hx : enodes x.l ≤ 9000000) (w : World) (v : Value) (hv : EV w 0 x.l v) :
    Calls Tryz.prog 49 #[.agg (xcells x v).toArray] w fun e w' => e = .returned (.bool (expOk x)) ∧ Below w.heap.size w w' := by
  show Calls Tryz.prog 49 #[.agg #[.int .i64 x.h.k, .int .i64 x.h.n, .string x.h.s, v]] w _
  have Hv := hid hv
  obtain ⟨va, vc, rfl⟩ := hv.shape
  obtain ⟨tv, htv⟩ : ∃ t, toldX 8 x = t := ⟨_, rfl⟩
  have Htv := hid htv
  have Hq : Hid (∀ w, EV w 0 x.l (.slice va (elen x.l) vc) → Calls Tryz.prog 99 #[.agg #[.int .i64 x.h.k, .int .i64 x.h.n, .string x.h.s, .slice va (elen x.l) vc], .int .i64 8] w fun e w' => e = .returned (.bool tv) ∧ Below w.heap.size w w') := fun w h => by rw [← htv]; exact expAsTold_all 8 (by omega) x w _ h
  have hb0 : Below w.heap.size w (w.alloc (.cells #[.int .i64 x.h.k, .int .i64 x.h.n, .string x.h.s, .slice va (elen x.l) vc] 43)) := alloc_below _ _
  clear hv htv
  go_enter Tryz.func49, Tryz.ntmps49
  go_wp2_with fail
  refine (Hq.out _ (Hv.out.later hb0)).mono ?_
  rintro e w1 ⟨rfl, hb1⟩
  have B1 := hb0.trans (hb1.mono hb0.size)
  cases tv with
  | false =>
    clear hb0 hb1
    go_wp2
    go_ret
    exact retB (by rw [expOk, Htv.out]; rfl) B1
  | true =>
    have c0 := box_cell (i := 0) hb1 rfl
    have c1 := box_cell (i := 1) hb1 rfl
    have c2 := box_cell (i := 2) hb1 rfl
    have c3 := box_cell (i := 3) hb1 rfl
    have V1 := hid (Hv.out.later B1)
    clear hb0 hb1
    go_wp2_with fail
    have V2 : EV (w1.alloc (.cells (xcells x (.slice va (elen x.l) vc)).toArray 43)) 0 (.node 0 0 x.h x.l .nil) (.slice (some ⟨w1.heap.size, 0, Option.none⟩) 1 1) :=
      EV.laid0 (F := .node 0 0 x.h x.l .nil) (ERow.one (V1.out.later (alloc_below _ _))) (new_range w1 (xcells x (.slice va (elen x.l) vc)).toArray 43) 1
    refine (countAllE_is (.node 0 0 x.h x.l .nil) (by simp only [enodes]; omega) _ _ V2).mono ?_
    rintro e w2 ⟨rfl, hb2⟩
    have B2 := B1.trans ((below_alloc hb2).mono B1.size)
    have hen : (enodes (.node 0 0 x.h x.l .nil : EF) : Int) = (enodes x.l : Int) + 1 := by simp only [enodes]; omega
    rw [hen]
    clear hb2 V2 c0 c1 c2 c3 hen
    by_cases h6 : (enodes x.l : Int) + 1 ≤ 60
    · go_wp2
      go_ret
      exact retB (by rw [expOk, Htv.out, decide_eq_true (by omega)]; rfl) B2
    · go_wp2
      go_ret
      exact retB (by rw [expOk, Htv.out]; simp; omega) B2
def parts (k : Int) : Int := if k = 1 ∨ k = 2 then 0 else if k = 3 then 1 else if 4 ≤ k ∧ k ≤ 8 then 2 else -1
theorem l3Parts_is (k r : Int) (hr : parts k = r) (w : World) : Calls Tryz.prog 186 #[.int .i64 k] w fun e w' => e = .returned (.int .i64 r) ∧ w = w' := by
  subst hr
  by_cases hk : 1 ≤ k ∧ k ≤ 8
  · obtain rfl | rfl | rfl | rfl | rfl | rfl | rfl | rfl : k = 1 ∨ k = 2 ∨ k = 3 ∨ k = 4 ∨ k = 5 ∨ k = 6 ∨ k = 7 ∨ k = 8 := by omega
    all_goals
      clear hk
      go_enter Tryz.func186, Tryz.ntmps186
      go_wp2
      go_ret
      exact ⟨rfl, rfl⟩
  · have hf : Hid (parts k = -1) := show parts k = -1 by
      unfold parts
      rw [if_neg (by omega), if_neg (by omega), if_neg (by omega)]
    have e1 : (k == 1) = false := int_ne (by omega)
    have e2 : (k == 2) = false := int_ne (by omega)
    have e3 : (k == 3) = false := int_ne (by omega)
    have e4 : (k == 4) = false := int_ne (by omega)
    have e5 : (k == 5) = false := int_ne (by omega)
    have e6 : (k == 6) = false := int_ne (by omega)
    have e7 : (k == 7) = false := int_ne (by omega)
    have e8 : (k == 8) = false := int_ne (by omega)
    clear hk
    go_enter Tryz.func186, Tryz.ntmps186
    go_wp2
    go_ret
    exact retI (by rw [hf.out]) rfl
theorem l1In_is (n a b : Int) (w : World) : Calls Tryz.prog 42 #[.int .i64 n, .int .i64 a, .int .i64 b] w fun e w' => e = .returned (.bool (decide (a ≤ n) && decide (n ≤ b))) ∧ w = w' := by
  by_cases h1 : a ≤ n
  · by_cases h2 : n ≤ b
    · go_enter Tryz.func42, Tryz.ntmps42
      go_wp2
      go_ret
      exact retB (by rw [decide_eq_true h1, decide_eq_true h2]; rfl) rfl
    · go_enter Tryz.func42, Tryz.ntmps42
      go_wp2
      go_ret
      exact retB (by first | (rw [decide_eq_false (by omega)]) | (simp; omega)) rfl
  · go_enter Tryz.func42, Tryz.ntmps42
    go_wp2
    go_ret
    exact retB (by rw [decide_eq_false (by omega)]; rfl) rfl
theorem belowN {B : Nat} {w w' : World} (h : Below B w w') (n : Nat) : Below B w (w'.drewN n) := by
  induction n with
  | zero => exact h
  | succ n ih => exact ih.drew
theorem below_calls {w w1 w2 : World} {n : Nat} (h : Below w.heap.size w w1) (hb : Below (w1.drewN n).heap.size (w1.drewN n) w2) : Below w.heap.size w w2 := (belowN h n).trans (hb.mono (belowN h n).size)
set_option maxHeartbeats 1000000 in
set_option maxRecDepth 100000 in
theorem l3Here_1 (n : Int) (s : ByteArray) (len : Nat) (hlim : s.size ≤ 281474976710656) (w : World) (a : Option Addr) (c : Nat) : Calls Tryz.prog 158 #[.agg #[.int .i64 1, .int .i64 n, .string s, .slice a len c]] w fun e w' => e = .returned (.bool (here ⟨1, n, s⟩ len)) ∧ Below w.heap.size w w' := by
  by_cases hl : len = 0
  case neg =>
    have hf : Hid (here ⟨1, n, s⟩ len = false) := show here _ _ = false by simp [here, fnum, hl]
    have h1 : ((0 : Int) == (len : Int)) = false := int_ne (by omega)
    have h1' : ((0 : Int) != (len : Int)) = true := by rw [bne, h1]; rfl
    clear hl
    go_enter Tryz.func158, Tryz.ntmps158
    go_wp2_with fail
    go_quiet (exact (l3Parts_is 1 0 rfl _).mono fun _ _ h => ⟨h.1, _, h.2.symm⟩)
    go_wp2
    go_ret
    exact retB hf.out (belowN (alloc_below _ _) _)
  subst hl
  have hf : Hid (here ⟨1, n, s⟩ 0 = (decide (0 ≤ n) && decide (n ≤ 999999) && decide (s.size = 0))) := show here _ _ = _ by
    by_cases hs : s.size = 0
    · simp [here, fnum, hs]
    · simp [here, fnum, hs]
  go_enter Tryz.func158, Tryz.ntmps158
  go_wp2_with fail
  go_quiet (exact (l3Parts_is 1 0 rfl _).mono fun _ _ h => ⟨h.1, _, h.2.symm⟩)
  go_wp2_with fail
  refine (l1In_is n 0 999999 _).mono ?_
  rintro e w1 ⟨rfl, hb1⟩
  subst hb1
  obtain ⟨t, ht⟩ : ∃ t, (decide (0 ≤ n) && decide (n ≤ 999999)) = t := ⟨_, rfl⟩
  have Ht := hid ht
  rw [ht]
  clear ht
  cases t with
  | false =>
    go_wp2
    go_ret
    exact retB (by rw [hf.out, Ht.out]; rfl) (belowN (alloc_below _ _) _)
  | true =>
    by_cases hs : s.size = 0
    · have he := str_empty hs
      have Hs := hid hs
      clear hs
      go_wp2
      go_ret
      exact retB (by rw [hf.out, Ht.out, Hs.out]; rfl) (belowN (alloc_below _ _) _)
    · have he := str_full hs
      have Hs := hid hs
      clear hs
      go_wp2
      go_ret
      exact retB (by rw [hf.out, Ht.out, decide_eq_false Hs.out]; rfl) (belowN (alloc_below _ _) _)
set_option maxHeartbeats 1000000 in
set_option maxRecDepth 100000 in
theorem l3Here_2 (n : Int) (s : ByteArray) (len : Nat) (hlim : s.size ≤ 281474976710656) (w : World) (a : Option Addr) (c : Nat) : Calls Tryz.prog 158 #[.agg #[.int .i64 2, .int .i64 n, .string s, .slice a len c]] w fun e w' => e = .returned (.bool (here ⟨2, n, s⟩ len)) ∧ Below w.heap.size w w' := by
  by_cases hl : len = 0
  case neg =>
    have hf : Hid (here ⟨2, n, s⟩ len = false) := show here _ _ = false by simp [here, fnum, hl]
    have h1 : ((0 : Int) == (len : Int)) = false := int_ne (by omega)
    have h1' : ((0 : Int) != (len : Int)) = true := by rw [bne, h1]; rfl
    clear hl
    go_enter Tryz.func158, Tryz.ntmps158
    go_wp2_with fail
    go_quiet (exact (l3Parts_is 2 0 rfl _).mono fun _ _ h => ⟨h.1, _, h.2.symm⟩)
    go_wp2
    go_ret
    exact retB hf.out (belowN (alloc_below _ _) _)
  subst hl
  by_cases hn : n = 0
  case neg =>
    have hf : Hid (here ⟨2, n, s⟩ 0 = false) := show here _ _ = false by simp [here, fnum, hn]
    have h1 := int_ne hn
    have h1' : (n != 0) = true := by rw [bne, h1]; rfl
    clear hn
    go_enter Tryz.func158, Tryz.ntmps158
    go_wp2_with fail
    go_quiet (exact (l3Parts_is 2 0 rfl _).mono fun _ _ h => ⟨h.1, _, h.2.symm⟩)
    go_wp2
    go_ret
    exact retB hf.out (belowN (alloc_below _ _) _)
  subst hn
  have hf : Hid (here ⟨2, 0, s⟩ 0 = nameOk s.data.toList) := show here _ _ = _ by simp [here, fnum]
  obtain ⟨nb, hnb⟩ : ∃ b, nameOk s.data.toList = b := ⟨_, rfl⟩
  have Hnb := hid hnb
  clear hnb
  go_enter Tryz.func158, Tryz.ntmps158
  go_wp2_with fail
  go_quiet (exact (l3Parts_is 2 0 rfl _).mono fun _ _ h => ⟨h.1, _, h.2.symm⟩)
  go_wp2_with fail
  refine (spec_NameOk s nb Hnb.out hlim _).mono ?_
  rintro e w1 ⟨rfl, hb1⟩
  have B1 := below_calls (alloc_below _ _) hb1
  clear hb1
  go_wp2
  go_ret
  exact retB (by rw [hf.out, Hnb.out]) B1
set_option maxHeartbeats 1000000 in
set_option maxRecDepth 100000 in
theorem l3Here_3 (n : Int) (s : ByteArray) (len : Nat) (hlim : s.size ≤ 281474976710656) (w : World) (a : Option Addr) (c : Nat) : Calls Tryz.prog 158 #[.agg #[.int .i64 3, .int .i64 n, .string s, .slice a len c]] w fun e w' => e = .returned (.bool (here ⟨3, n, s⟩ len)) ∧ Below w.heap.size w w' := by
  by_cases hl : len = 1
  case neg =>
    have hf : Hid (here ⟨3, n, s⟩ len = false) := show here _ _ = false by simp [here, fnum, hl]
    have h1 : ((1 : Int) == (len : Int)) = false := int_ne (by omega)
    have h1' : ((1 : Int) != (len : Int)) = true := by rw [bne, h1]; rfl
    clear hl
    go_enter Tryz.func158, Tryz.ntmps158
    go_wp2_with fail
    go_quiet (exact (l3Parts_is 3 1 rfl _).mono fun _ _ h => ⟨h.1, _, h.2.symm⟩)
    go_wp2
    go_ret
    exact retB hf.out (belowN (alloc_below _ _) _)
  subst hl
  by_cases hn : n = 0
  case neg =>
    have hf : Hid (here ⟨3, n, s⟩ 1 = false) := show here _ _ = false by simp [here, fnum, hn]
    have h1 := int_ne hn
    have h1' : (n != 0) = true := by rw [bne, h1]; rfl
    clear hn
    go_enter Tryz.func158, Tryz.ntmps158
    go_wp2_with fail
    go_quiet (exact (l3Parts_is 3 1 rfl _).mono fun _ _ h => ⟨h.1, _, h.2.symm⟩)
    go_wp2
    go_ret
    exact retB hf.out (belowN (alloc_below _ _) _)
  subst hn
  have hf : Hid (here ⟨3, 0, s⟩ 1 = nameOk s.data.toList) := show here _ _ = _ by simp [here, fnum]
  obtain ⟨nb, hnb⟩ : ∃ b, nameOk s.data.toList = b := ⟨_, rfl⟩
  have Hnb := hid hnb
  clear hnb
  go_enter Tryz.func158, Tryz.ntmps158
  go_wp2_with fail
  go_quiet (exact (l3Parts_is 3 1 rfl _).mono fun _ _ h => ⟨h.1, _, h.2.symm⟩)
  go_wp2_with fail
  refine (spec_NameOk s nb Hnb.out hlim _).mono ?_
  rintro e w1 ⟨rfl, hb1⟩
  have B1 := below_calls (alloc_below _ _) hb1
  clear hb1
  go_wp2
  go_ret
  exact retB (by rw [hf.out, Hnb.out]) B1
set_option maxHeartbeats 1000000 in
set_option maxRecDepth 100000 in
theorem l3Here_4 (n : Int) (s : ByteArray) (len : Nat) (hlim : s.size ≤ 281474976710656) (w : World) (a : Option Addr) (c : Nat) : Calls Tryz.prog 158 #[.agg #[.int .i64 4, .int .i64 n, .string s, .slice a len c]] w fun e w' => e = .returned (.bool (here ⟨4, n, s⟩ len)) ∧ Below w.heap.size w w' := by
  by_cases hl : len = 2
  case neg =>
    have hf : Hid (here ⟨4, n, s⟩ len = false) := show here _ _ = false by simp [here, fnum, hl]
    have h1 : ((2 : Int) == (len : Int)) = false := int_ne (by omega)
    have h1' : ((2 : Int) != (len : Int)) = true := by rw [bne, h1]; rfl
    clear hl
    go_enter Tryz.func158, Tryz.ntmps158
    go_wp2_with fail
    go_quiet (exact (l3Parts_is 4 2 rfl _).mono fun _ _ h => ⟨h.1, _, h.2.symm⟩)
    go_wp2
    go_ret
    exact retB hf.out (belowN (alloc_below _ _) _)
  subst hl
  by_cases hn : n = 0
  case neg =>
    have hf : Hid (here ⟨4, n, s⟩ 2 = false) := show here _ _ = false by simp [here, fnum, hn]
    have h1 := int_ne hn
    have h1' : (n != 0) = true := by rw [bne, h1]; rfl
    clear hn
    go_enter Tryz.func158, Tryz.ntmps158
    go_wp2_with fail
    go_quiet (exact (l3Parts_is 4 2 rfl _).mono fun _ _ h => ⟨h.1, _, h.2.symm⟩)
    go_wp2
    go_ret
    exact retB hf.out (belowN (alloc_below _ _) _)
  subst hn
  by_cases hs : s.size = 0
  · have hf : Hid (here ⟨4, 0, s⟩ 2 = true) := show here _ _ = _ by simp [here, fnum, hs]
    have he := str_empty hs
    clear hs
    go_enter Tryz.func158, Tryz.ntmps158
    go_wp2_with fail
    go_quiet (exact (l3Parts_is 4 2 rfl _).mono fun _ _ h => ⟨h.1, _, h.2.symm⟩)
    go_wp2
    go_ret
    exact retB hf.out (belowN (alloc_below _ _) _)
  · have hf : Hid (here ⟨4, 0, s⟩ 2 = false) := show here _ _ = _ by simp [here, fnum, hs]
    have he := str_full hs
    clear hs
    go_enter Tryz.func158, Tryz.ntmps158
    go_wp2_with fail
    go_quiet (exact (l3Parts_is 4 2 rfl _).mono fun _ _ h => ⟨h.1, _, h.2.symm⟩)
    go_wp2
    go_ret
    exact retB hf.out (belowN (alloc_below _ _) _)
set_option maxHeartbeats 1000000 in
set_option maxRecDepth 100000 in
theorem l3Here_5 (n : Int) (s : ByteArray) (len : Nat) (hlim : s.size ≤ 281474976710656) (w : World) (a : Option Addr) (c : Nat) : Calls Tryz.prog 158 #[.agg #[.int .i64 5, .int .i64 n, .string s, .slice a len c]] w fun e w' => e = .returned (.bool (here ⟨5, n, s⟩ len)) ∧ Below w.heap.size w w' := by
  by_cases hl : len = 2
  case neg =>
    have hf : Hid (here ⟨5, n, s⟩ len = false) := show here _ _ = false by simp [here, fnum, hl]
    have h1 : ((2 : Int) == (len : Int)) = false := int_ne (by omega)
    have h1' : ((2 : Int) != (len : Int)) = true := by rw [bne, h1]; rfl
    clear hl
    go_enter Tryz.func158, Tryz.ntmps158
    go_wp2_with fail
    go_quiet (exact (l3Parts_is 5 2 rfl _).mono fun _ _ h => ⟨h.1, _, h.2.symm⟩)
    go_wp2
    go_ret
    exact retB hf.out (belowN (alloc_below _ _) _)
  subst hl
  by_cases hn : n = 0
  case neg =>
    have hf : Hid (here ⟨5, n, s⟩ 2 = false) := show here _ _ = false by simp [here, fnum, hn]
    have h1 := int_ne hn
    have h1' : (n != 0) = true := by rw [bne, h1]; rfl
    clear hn
    go_enter Tryz.func158, Tryz.ntmps158
    go_wp2_with fail
    go_quiet (exact (l3Parts_is 5 2 rfl _).mono fun _ _ h => ⟨h.1, _, h.2.symm⟩)
    go_wp2
    go_ret
    exact retB hf.out (belowN (alloc_below _ _) _)
  subst hn
  by_cases hs : s.size = 0
  · have hf : Hid (here ⟨5, 0, s⟩ 2 = true) := show here _ _ = _ by simp [here, fnum, hs]
    have he := str_empty hs
    clear hs
    go_enter Tryz.func158, Tryz.ntmps158
    go_wp2_with fail
    go_quiet (exact (l3Parts_is 5 2 rfl _).mono fun _ _ h => ⟨h.1, _, h.2.symm⟩)
    go_wp2
    go_ret
    exact retB hf.out (belowN (alloc_below _ _) _)
  · have hf : Hid (here ⟨5, 0, s⟩ 2 = false) := show here _ _ = _ by simp [here, fnum, hs]
    have he := str_full hs
    clear hs
    go_enter Tryz.func158, Tryz.ntmps158
    go_wp2_with fail
    go_quiet (exact (l3Parts_is 5 2 rfl _).mono fun _ _ h => ⟨h.1, _, h.2.symm⟩)
    go_wp2
    go_ret
    exact retB hf.out (belowN (alloc_below _ _) _)
set_option maxHeartbeats 1000000 in
set_option maxRecDepth 100000 in
theorem l3Here_6 (n : Int) (s : ByteArray) (len : Nat) (hlim : s.size ≤ 281474976710656) (w : World) (a : Option Addr) (c : Nat) : Calls Tryz.prog 158 #[.agg #[.int .i64 6, .int .i64 n, .string s, .slice a len c]] w fun e w' => e = .returned (.bool (here ⟨6, n, s⟩ len)) ∧ Below w.heap.size w w' := by
  by_cases hl : len = 2
  case neg =>
    have hf : Hid (here ⟨6, n, s⟩ len = false) := show here _ _ = false by simp [here, fnum, hl]
    have h1 : ((2 : Int) == (len : Int)) = false := int_ne (by omega)
    have h1' : ((2 : Int) != (len : Int)) = true := by rw [bne, h1]; rfl
    clear hl
    go_enter Tryz.func158, Tryz.ntmps158
    go_wp2_with fail
    go_quiet (exact (l3Parts_is 6 2 rfl _).mono fun _ _ h => ⟨h.1, _, h.2.symm⟩)
    go_wp2
    go_ret
    exact retB hf.out (belowN (alloc_below _ _) _)
  subst hl
  by_cases hn : n = 0
  case neg =>
    have hf : Hid (here ⟨6, n, s⟩ 2 = false) := show here _ _ = false by simp [here, fnum, hn]
    have h1 := int_ne hn
    have h1' : (n != 0) = true := by rw [bne, h1]; rfl
    clear hn
    go_enter Tryz.func158, Tryz.ntmps158
    go_wp2_with fail
    go_quiet (exact (l3Parts_is 6 2 rfl _).mono fun _ _ h => ⟨h.1, _, h.2.symm⟩)
    go_wp2
    go_ret
    exact retB hf.out (belowN (alloc_below _ _) _)
  subst hn
  by_cases hs : s.size = 0
  · have hf : Hid (here ⟨6, 0, s⟩ 2 = true) := show here _ _ = _ by simp [here, fnum, hs]
    have he := str_empty hs
    clear hs
    go_enter Tryz.func158, Tryz.ntmps158
    go_wp2_with fail
    go_quiet (exact (l3Parts_is 6 2 rfl _).mono fun _ _ h => ⟨h.1, _, h.2.symm⟩)
    go_wp2
    go_ret
    exact retB hf.out (belowN (alloc_below _ _) _)
  · have hf : Hid (here ⟨6, 0, s⟩ 2 = false) := show here _ _ = _ by simp [here, fnum, hs]
    have he := str_full hs
    clear hs
    go_enter Tryz.func158, Tryz.ntmps158
    go_wp2_with fail
    go_quiet (exact (l3Parts_is 6 2 rfl _).mono fun _ _ h => ⟨h.1, _, h.2.symm⟩)
    go_wp2
    go_ret
    exact retB hf.out (belowN (alloc_below _ _) _)
set_option maxHeartbeats 1000000 in
set_option maxRecDepth 100000 in
theorem l3Here_7 (n : Int) (s : ByteArray) (len : Nat) (hlim : s.size ≤ 281474976710656) (w : World) (a : Option Addr) (c : Nat) : Calls Tryz.prog 158 #[.agg #[.int .i64 7, .int .i64 n, .string s, .slice a len c]] w fun e w' => e = .returned (.bool (here ⟨7, n, s⟩ len)) ∧ Below w.heap.size w w' := by
  by_cases hl : len = 2
  case neg =>
    have hf : Hid (here ⟨7, n, s⟩ len = false) := show here _ _ = false by simp [here, fnum, hl]
    have h1 : ((2 : Int) == (len : Int)) = false := int_ne (by omega)
    have h1' : ((2 : Int) != (len : Int)) = true := by rw [bne, h1]; rfl
    clear hl
    go_enter Tryz.func158, Tryz.ntmps158
    go_wp2_with fail
    go_quiet (exact (l3Parts_is 7 2 rfl _).mono fun _ _ h => ⟨h.1, _, h.2.symm⟩)
    go_wp2
    go_ret
    exact retB hf.out (belowN (alloc_below _ _) _)
  subst hl
  by_cases hn : n = 0
  case neg =>
    have hf : Hid (here ⟨7, n, s⟩ 2 = false) := show here _ _ = false by simp [here, fnum, hn]
    have h1 := int_ne hn
    have h1' : (n != 0) = true := by rw [bne, h1]; rfl
    clear hn
    go_enter Tryz.func158, Tryz.ntmps158
    go_wp2_with fail
    go_quiet (exact (l3Parts_is 7 2 rfl _).mono fun _ _ h => ⟨h.1, _, h.2.symm⟩)
    go_wp2
    go_ret
    exact retB hf.out (belowN (alloc_below _ _) _)
  subst hn
  by_cases hs : s.size = 0
  · have hf : Hid (here ⟨7, 0, s⟩ 2 = true) := show here _ _ = _ by simp [here, fnum, hs]
    have he := str_empty hs
    clear hs
    go_enter Tryz.func158, Tryz.ntmps158
    go_wp2_with fail
    go_quiet (exact (l3Parts_is 7 2 rfl _).mono fun _ _ h => ⟨h.1, _, h.2.symm⟩)
    go_wp2
    go_ret
    exact retB hf.out (belowN (alloc_below _ _) _)
  · have hf : Hid (here ⟨7, 0, s⟩ 2 = false) := show here _ _ = _ by simp [here, fnum, hs]
    have he := str_full hs
    clear hs
    go_enter Tryz.func158, Tryz.ntmps158
    go_wp2_with fail
    go_quiet (exact (l3Parts_is 7 2 rfl _).mono fun _ _ h => ⟨h.1, _, h.2.symm⟩)
    go_wp2
    go_ret
    exact retB hf.out (belowN (alloc_below _ _) _)
set_option maxHeartbeats 1000000 in
set_option maxRecDepth 100000 in
theorem l3Here_8 (n : Int) (s : ByteArray) (len : Nat) (hlim : s.size ≤ 281474976710656) (w : World) (a : Option Addr) (c : Nat) : Calls Tryz.prog 158 #[.agg #[.int .i64 8, .int .i64 n, .string s, .slice a len c]] w fun e w' => e = .returned (.bool (here ⟨8, n, s⟩ len)) ∧ Below w.heap.size w w' := by
  by_cases hl : len = 2
  case neg =>
    have hf : Hid (here ⟨8, n, s⟩ len = false) := show here _ _ = false by simp [here, fnum, hl]
    have h1 : ((2 : Int) == (len : Int)) = false := int_ne (by omega)
    have h1' : ((2 : Int) != (len : Int)) = true := by rw [bne, h1]; rfl
    clear hl
    go_enter Tryz.func158, Tryz.ntmps158
    go_wp2_with fail
    go_quiet (exact (l3Parts_is 8 2 rfl _).mono fun _ _ h => ⟨h.1, _, h.2.symm⟩)
    go_wp2
    go_ret
    exact retB hf.out (belowN (alloc_below _ _) _)
  subst hl
  by_cases hn : n = 0
  case neg =>
    have hf : Hid (here ⟨8, n, s⟩ 2 = false) := show here _ _ = false by simp [here, fnum, hn]
    have h1 := int_ne hn
    have h1' : (n != 0) = true := by rw [bne, h1]; rfl
    clear hn
    go_enter Tryz.func158, Tryz.ntmps158
    go_wp2_with fail
    go_quiet (exact (l3Parts_is 8 2 rfl _).mono fun _ _ h => ⟨h.1, _, h.2.symm⟩)
    go_wp2
    go_ret
    exact retB hf.out (belowN (alloc_below _ _) _)
  subst hn
  by_cases hs : s.size = 0
  · have hf : Hid (here ⟨8, 0, s⟩ 2 = true) := show here _ _ = _ by simp [here, fnum, hs]
    have he := str_empty hs
    clear hs
    go_enter Tryz.func158, Tryz.ntmps158
    go_wp2_with fail
    go_quiet (exact (l3Parts_is 8 2 rfl _).mono fun _ _ h => ⟨h.1, _, h.2.symm⟩)
    go_wp2
    go_ret
    exact retB hf.out (belowN (alloc_below _ _) _)
  · have hf : Hid (here ⟨8, 0, s⟩ 2 = false) := show here _ _ = _ by simp [here, fnum, hs]
    have he := str_full hs
    clear hs
    go_enter Tryz.func158, Tryz.ntmps158
    go_wp2_with fail
    go_quiet (exact (l3Parts_is 8 2 rfl _).mono fun _ _ h => ⟨h.1, _, h.2.symm⟩)
    go_wp2
    go_ret
    exact retB hf.out (belowN (alloc_below _ _) _)
set_option maxHeartbeats 1000000 in
set_option maxRecDepth 100000 in
theorem l3Here_0 (k : Int) (hk : ¬ (1 ≤ k ∧ k ≤ 8)) (n : Int) (s : ByteArray) (len : Nat) (hlim : s.size ≤ 281474976710656) (w : World) (a : Option Addr) (c : Nat) : Calls Tryz.prog 158 #[.agg #[.int .i64 k, .int .i64 n, .string s, .slice a len c]] w fun e w' => e = .returned (.bool (here ⟨k, n, s⟩ len)) ∧ Below w.heap.size w w' := by
  have hf : Hid (here ⟨k, n, s⟩ len = false) := show here _ _ = false by
    have : fnum ⟨k, n, s⟩ len = 0 := by
      simp only [fnum]
      rw [if_neg (by omega), if_neg (by omega), if_neg (by omega), if_neg (by omega)]
    simp [here, this]
  have hp : Hid (parts k = -1) := show parts k = -1 by
    unfold parts
    rw [if_neg (by omega), if_neg (by omega), if_neg (by omega)]
  have h1 : ((-1 : Int) == (len : Int)) = false := int_ne (by omega)
  have h1' : ((-1 : Int) != (len : Int)) = true := by rw [bne, h1]; rfl
  clear hk
  go_enter Tryz.func158, Tryz.ntmps158
  go_wp2_with fail
  go_quiet (exact (l3Parts_is k (-1) hp.out _).mono fun _ _ h => ⟨h.1, _, h.2.symm⟩)
  go_wp2
  go_ret
  exact retB hf.out (belowN (alloc_below _ _) _)
theorem l3Here_is (x : X) (hlim : x.h.s.size ≤ 281474976710656) (w : World) (v : Value) (hv : EV w 0 x.l v) : Calls Tryz.prog 158 #[.agg #[.int .i64 x.h.k, .int .i64 x.h.n, .string x.h.s, v]] w fun e w' => e = .returned (.bool (here x.h (elen x.l))) ∧ Below w.heap.size w w' := by
  obtain ⟨a, c, rfl⟩ := hv.shape
  obtain ⟨⟨k, n, s⟩, l⟩ := x
  by_cases hk : 1 ≤ k ∧ k ≤ 8
  · obtain h | h | h | h | h | h | h | h : k = 1 ∨ k = 2 ∨ k = 3 ∨ k = 4 ∨ k = 5 ∨ k = 6 ∨ k = 7 ∨ k = 8 := by omega
    · subst h; exact l3Here_1 n s (elen l) hlim w a c
    · subst h; exact l3Here_2 n s (elen l) hlim w a c
    · subst h; exact l3Here_3 n s (elen l) hlim w a c
    · subst h; exact l3Here_4 n s (elen l) hlim w a c
    · subst h; exact l3Here_5 n s (elen l) hlim w a c
    · subst h; exact l3Here_6 n s (elen l) hlim w a c
    · subst h; exact l3Here_7 n s (elen l) hlim w a c
    · subst h; exact l3Here_8 n s (elen l) hlim w a c
  · exact l3Here_0 k hk n s (elen l) hlim w a c
theorem toldF_node (d p q : Nat) (h : EH) (l r : EF) : toldF d (.node p q h l r) = (toldX d ⟨h, l⟩ && toldF d r) := by simp only [toldF, toldX, Bool.and_assoc]
theorem toldX_succ (d : Nat) (x : X) : toldX (d + 1) x = (here x.h (elen x.l) && toldF d x.l) := by simp [toldX]
def okAt (D : Nat) (x : X) : Prop := toldX D x = true ∧ enodes x.l + 1 ≤ 60
structure Cnt (D : Nat) (x : X) (r : Nat) : Prop where
  yes : okAt D x → r = enodes x.l + 1
  no : ¬ okAt D x → 60 < r
  big : r ≤ 100 + 60 * D
structure CntM (w : World) (D : Nat) (xl R : EF) (k c b o : Nat) : Prop where
  at_ : EIn w 0 R b (o + k * 4)
  num : k + elen R = elen xl
  siz : esize R ≤ 1048576
  low : c ≤ 60 → toldF D xl = toldF D R ∧ c + enodes R = enodes xl + 1
  high : 60 < c → ¬ (toldF D xl = true ∧ enodes xl + 1 ≤ 60)
  big : c ≤ 160 + 60 * D
theorem CntM.next {w : World} {D p q : Nat} {xl : EF} {h : EH} {l r : EF} {k c b o n : Nat} (m : CntM w D xl (.node p q h l r) k c b o) (hc : c ≤ 60) (hn : Cnt D ⟨h, l⟩ n) : CntM w D xl r (k + 1) (c + n) b o := by
  obtain ⟨e1, e2⟩ := m.low hc
  rw [toldF_node] at e1
  have h1 := m.num
  have h2 := m.siz
  simp only [elen, esize, enodes] at h1 h2 e2
  have hb := hn.big
  by_cases hok : okAt D ⟨h, l⟩
  · have hy := hn.yes hok
    have ht := hok.1
    rw [ht, Bool.true_and] at e1
    have hy' : n = enodes l + 1 := hy
    refine ⟨by rw [show o + (k + 1) * 4 = o + k * 4 + 4 by omega]; exact (EIn_node.1 m.at_).2, by omega, by omega, fun _ => ⟨e1, by omega⟩, fun hh => ?_, by omega⟩
    intro ⟨_, g2⟩; omega
  · have hy := hn.no hok
    refine ⟨by rw [show o + (k + 1) * 4 = o + k * 4 + 4 by omega]; exact (EIn_node.1 m.at_).2, by omega, by omega, fun hh => by omega, fun hh => ?_, by omega⟩
    intro ⟨g1, g2⟩
    apply hok
    rw [e1, Bool.and_eq_true] at g1
    exact ⟨g1.1, by show enodes l + 1 ≤ 60; omega⟩
set_option maxHeartbeats 2000000 in
set_option maxRecDepth 100000 in
theorem l3Count_step (D : Nat) (hD : D ≤ 8)
    (ih : ∀ (x : X) (w : World) (v : Value), xsize x ≤ 1048576 → EV w 0 x.l v → D ≤ 7 → Calls Tryz.prog 107 #[.agg #[.int .i64 x.h.k, .int .i64 x.h.n, .string x.h.s, v], .int .i64 (9 - (D : Int))] w fun e w' => ∃ r : Nat, e = .returned (.int .i64 (r : Int)) ∧ Cnt D x r ∧ Below w.heap.size w w')
    (x : X) (w : World) (v : Value) (hs : xsize x ≤ 1048576) (hv : EV w 0 x.l v) (hD7 : D ≤ 7) :
    Calls Tryz.prog 107 #[.agg #[.int .i64 x.h.k, .int .i64 x.h.n, .string x.h.s, v], .int .i64 (8 - (D : Int))] w fun e w' => ∃ r : Nat, e = .returned (.int .i64 (r : Int)) ∧ Cnt (D + 1) x r ∧ Below w.heap.size w w' := by
  have h8 : ¬ (8 : Int) < 8 - (D : Int) := by omega
  have Hih := hid ih
  have Hv := hid hv
  obtain ⟨b, o, ao, cap, rfl, hao, _, hin⟩ := hv
  have HI := hid (And.intro hao hin)
  have hss : x.h.s.size ≤ 281474976710656 := by unfold xsize at hs; omega
  have hse : esize x.l ≤ 1048576 := by unfold xsize at hs; omega
  have HSE := hid hse
  obtain ⟨tv, htv⟩ : ∃ t, here x.h (elen x.l) = t := ⟨_, rfl⟩
  have Htv := hid htv
  have Hq : Hid (∀ w, EV w 0 x.l (.slice ao (elen x.l) cap) → Calls Tryz.prog 158 #[.agg #[.int .i64 x.h.k, .int .i64 x.h.n, .string x.h.s, .slice ao (elen x.l) cap]] w fun e w' => e = .returned (.bool tv) ∧ Below w.heap.size w w') := fun w h => by rw [← htv]; exact l3Here_is x hss w _ h
  have hb0 : Below w.heap.size w (w.alloc (.cells #[.int .i64 x.h.k, .int .i64 x.h.n, .string x.h.s, .slice ao (elen x.l) cap] 43)) := alloc_below _ _
  have hln : (elen x.l : Int) ≤ 1048576 := by have := elen_le x.l; have := enodes_le x.l; omega
  have hDI : (D : Int) ≤ 7 := by omega
  clear ih hao hin htv hss hs hse
  go_enter Tryz.func107, Tryz.ntmps107
  go_wp2_with fail
  refine (Hq.out _ (Hv.out.later hb0)).mono ?_
  rintro e w1 ⟨rfl, hb1⟩
  have B1 := hb0.trans (hb1.mono hb0.size)
  cases tv with
  | false =>
    have hno : Hid (¬ okAt (D + 1) x) := show ¬ okAt (D + 1) x by intro h; have := h.1; rw [toldX_succ, Htv.out] at this; cases this
    clear hb0 hb1
    go_wp2
    go_ret
    exact ⟨100, rfl, ⟨fun h => absurd h hno.out, fun _ => by omega, by omega⟩, B1⟩
  | true =>
    have c3 := box_cell (i := 3) hb1 rfl
    have C3 := hid c3
    have HB1 := hid B1
    clear hb0 hb1 Hq
    go_wp2
    go_loopw [5, 6] (fun y i wr => ∃ (R : EF) (k c : Nat), i = .int .i64 (k : Int) ∧ y = .int .i64 (c : Int) ∧ Hid (CntM w D x.l R k c b o) ∧ Hid (wr.cell? ⟨w.heap.size, 3, Option.none⟩ = some (.slice ao (elen x.l) cap)) ∧ Below w.heap.size w wr) (fun _ i _ => elen x.l - (RowKit.intOf i).toNat)
    case atStart => exact ⟨x.l, 0, 1, rfl, rfl, ⟨by simpa using HI.out.2, by omega, HSE.out, fun _ => ⟨rfl, by omega⟩, fun h => by omega, by omega⟩, C3, HB1.out⟩
    case round =>
      obtain ⟨R, k, c, rfl, rfl, hm, hc3, hbw⟩ := hrel
      clear c3 C3 B1 HB1
      have c3 := hc3.out
      have hcb := hm.out.big
      have hcI : (c : Int) ≤ 640 := by omega
      cases R with
      | nil =>
        have hk : ¬ (k : Int) < (elen x.l : Int) := by have := hm.out.num; simp only [elen] at this; omega
        go_wp2
        go_ret
        refine ⟨c, rfl, ⟨fun hok => ?_, fun hok => ?_, by omega⟩, hbw⟩
        · rcases Nat.lt_or_ge 60 c with h6 | h6
          · exact absurd ⟨by have := hok.1; rw [toldX_succ, Htv.out, Bool.true_and] at this; exact this, hok.2⟩ (hm.out.high h6)
          · have := (hm.out.low h6).2; simp only [enodes] at this; omega
        · rcases Nat.lt_or_ge 60 c with h6 | h6
          · exact h6
          · obtain ⟨g1, g2⟩ := hm.out.low h6
            exact absurd ⟨by rw [toldX_succ, Htv.out, g1]; rfl, by simp only [enodes] at g2; omega⟩ hok
      | node p q h l r =>
        have hlt : (k : Int) < (elen x.l : Int) := by have := hm.out.num; simp only [elen] at this; omega
        by_cases h6 : (c : Int) ≤ 60
        · have hne : ¬ x.l = .nil := by intro e; have := hm.out.num; rw [e] at this; simp only [elen] at this; omega
          obtain rfl : ao = some ⟨b, o, Option.none⟩ := HI.out.1.resolve_right hne
          obtain ⟨⟨a0, a1, a2, u, a3, hu⟩, _⟩ := EIn_node.1 (EIn_later hbw _ _ _ hm.out.at_)
          have hsz : xsize ⟨h, l⟩ ≤ 1048576 := by have := hm.out.siz; simp only [esize] at this; unfold xsize; simp only; omega
          have Hl := hid (fun w v => Hih.out ⟨h, l⟩ w v hsz)
          have HU := hid hu
          have Hd7 := hid hD7
          have h9 : (8 : Int) - (D : Int) + 1 = 9 - (D : Int) := by omega
          clear hne hsz hu hcb
          go_wp2_with fail
          refine (Hl.out _ u HU.out Hd7.out).mono ?_
          rintro e w2 ⟨rr, rfl, hrr, hb2⟩
          have hbw2 := hbw.trans (hb2.mono hbw.size)
          have hm2 := hid (hm.out.next (by omega) hrr)
          have hrb : (rr : Int) ≤ 640 := by have := hrr.big; omega
          have hc32 := hid (keeps hb2 c3)
          clear hb2 hbw a0 a1 a2 a3 hrr c3 hc3 h9
          go_wp2
          go_roundw
          case rel => exact ⟨r, k + 1, c + rr, by go_num, by go_num, hm2, hc32, hbw2⟩
          case measure => simp [RowKit.intOf]; omega
        · go_wp2
          go_ret
          have h6' : 60 < c := by omega
          refine ⟨c, rfl, ⟨fun hok => ?_, fun _ => h6', by omega⟩, hbw⟩
          exact absurd ⟨by have := hok.1; rw [toldX_succ, Htv.out, Bool.true_and] at this; exact this, hok.2⟩ (hm.out.high h6')
set_option maxRecDepth 100000 in
theorem l3Count_zero (x : X) (w : World) (v : Value) : Calls Tryz.prog 107 #[.agg #[.int .i64 x.h.k, .int .i64 x.h.n, .string x.h.s, v], .int .i64 9] w fun e w' => ∃ r : Nat, e = .returned (.int .i64 (r : Int)) ∧ Cnt 0 x r ∧ Below w.heap.size w w' := by
  go_enter Tryz.func107, Tryz.ntmps107
  go_wp2
  go_ret
  exact ⟨100, rfl, ⟨fun h => absurd h.1 (by simp [toldX]), fun _ => by omega, by omega⟩, alloc_below _ _⟩
theorem l3Count_all : ∀ (D : Nat), D ≤ 8 → ∀ (x : X) (w : World) (v : Value), xsize x ≤ 1048576 → EV w 0 x.l v → Calls Tryz.prog 107 #[.agg #[.int .i64 x.h.k, .int .i64 x.h.n, .string x.h.s, v], .int .i64 (9 - (D : Int))] w fun e w' => ∃ r : Nat, e = .returned (.int .i64 (r : Int)) ∧ Cnt D x r ∧ Below w.heap.size w w'
  | 0, _, x, w, v, _, _ => l3Count_zero x w v
  | D + 1, h, x, w, v, hs, hv => by
    have e : (9 : Int) - ((D + 1 : Nat) : Int) = 8 - (D : Int) := by omega
    rw [e]
    exact l3Count_step D (by omega) (fun x w v a b _ => l3Count_all D (by omega) x w v a b) x w v hs hv (by omega)
set_option maxRecDepth 100000 in
theorem spec_ExpOk (x : X) (hs : xsize x ≤ 1048576) (w : World) (v : Value) (hv : EV w 0 x.l v) :
    Calls Tryz.prog 52 #[.agg (xcells x v).toArray] w fun e w' => e = .returned (.bool (expOk x)) ∧ Below w.heap.size w w' := by
  show Calls Tryz.prog 52 #[.agg #[.int .i64 x.h.k, .int .i64 x.h.n, .string x.h.s, v]] w _
  have Hv := hid hv
  obtain ⟨va, vc, rfl⟩ := hv.shape
  have hb0 : Below w.heap.size w (w.alloc (.cells #[.int .i64 x.h.k, .int .i64 x.h.n, .string x.h.s, .slice va (elen x.l) vc] 43)) := alloc_below _ _
  have Hs := hid hs
  clear hv hs
  go_enter Tryz.func52, Tryz.ntmps52
  go_wp2_with fail
  refine (l3Count_all 8 (by omega) x _ _ Hs.out (Hv.out.later hb0)).mono ?_
  rintro e w1 ⟨r, rfl, hr, hb1⟩
  have B1 := hb0.trans (hb1.mono hb0.size)
  have Hr := hid hr
  clear hb0 hb1 hr
  by_cases hok : okAt 8 x
  · have h6 : (r : Int) ≤ 60 := by have := Hr.out.yes hok; have := hok.2; omega
    have Hok := hid hok
    clear hok
    go_wp2
    go_ret
    exact retB (by rw [expOk, Hok.out.1, decide_eq_true Hok.out.2]; rfl) B1
  · have h6 : ¬ (r : Int) ≤ 60 := by have := Hr.out.no hok; omega
    have hf : Hid (expOk x = false) := show expOk x = false by
      cases e : expOk x with
      | false => rfl
      | true =>
        unfold expOk at e
        rw [Bool.and_eq_true, decide_eq_true_eq] at e
        exact absurd e hok
    clear hok
    go_wp2
    go_ret
    exact retB (by rw [hf.out]; symm; first | rfl | (simp; omega)) B1
def evX (ts : List AR) (A : List (List Int)) (nm : ByteArray → Int) : Nat → X → Option Int
  | 0, _ => none
  | d + 1, x =>
    if fnum x.h (elen x.l) = 1 then some x.h.n
    else if fnum x.h (elen x.l) = 2 then some (nm x.h.s)
    else if fnum x.h (elen x.l) = 3 then (match x.l with | .node _ _ h l .nil => (evX ts A nm d ⟨h, l⟩).bind (inA ts A x.h.s) | _ => none)
    else if fnum x.h (elen x.l) = 4 then (match x.l with | .node _ _ h l (.node _ _ h' l' .nil) => (evX ts A nm d ⟨h, l⟩).bind fun a => (evX ts A nm d ⟨h', l'⟩).map (opV x.h.k a) | _ => none)
    else none
section
variable {ts : List AR} {A : List (List Int)} {nm : ByteArray → Int}
theorem evX_num {d : Nat} {x : X} (h : fnum x.h (elen x.l) = 1) : evX ts A nm (d + 1) x = some x.h.n := by rw [evX, if_pos h]
theorem evX_var {d : Nat} {x : X} (h : fnum x.h (elen x.l) = 2) : evX ts A nm (d + 1) x = some (nm x.h.s) := by rw [evX, if_neg (by omega), if_pos h]
theorem evX_at {d p q : Nat} {x y : X} (h : fnum x.h (elen x.l) = 3) (e : x.l = .node p q y.h y.l .nil) : evX ts A nm (d + 1) x = (evX ts A nm d y).bind (inA ts A x.h.s) := by
  rw [evX, if_neg (by omega), if_neg (by omega), if_pos h, e]
theorem evX_pair {d p q p' q' : Nat} {x y z : X} (h : fnum x.h (elen x.l) = 4) (e : x.l = .node p q y.h y.l (.node p' q' z.h z.l .nil)) : evX ts A nm (d + 1) x = (evX ts A nm d y).bind fun a => (evX ts A nm d z).map (opV x.h.k a) := by
  rw [evX, if_neg (by omega), if_neg (by omega), if_neg (by omega), if_pos h, e]
end
theorem fnum4 {h : EH} {n : Nat} (e : fnum h n = 4) : 4 ≤ h.k ∧ h.k ≤ 8 := by
  unfold fnum at e
  split at e
  · omega
  · split at e
    · omega
    · split at e
      · omega
      · split at e
        · omega
        · omega
def valR (r : Option Int) : Ending := .returned (.tuple #[.int .i64 (r.getD 0), .bool r.isSome])
structure VB (w w' : World) (N : Nat) (va vb sa sv so : Value) (en : Int) (cs : List Value) : Prop where
  rp : w'.rangeAt N 0 [va, vb]
  rs : w'.rangeAt (N + 1) 0 [sa, sv, so, .int .i64 en]
  re : w'.rangeAt (N + 2) 0 cs
  b : Below w.heap.size w w'
theorem VB.later {w w1 w2 : World} {N : Nat} {va vb sa sv so : Value} {en : Int} {cs : List Value} (h : VB w w1 N va vb sa sv so en cs) (hb : Below w1.heap.size w1 w2) : VB w w2 N va vb sa sv so en cs :=
  ⟨rangeAt_later h.rp hb, rangeAt_later h.rs hb, rangeAt_later h.re hb, h.b.trans (hb.mono h.b.size)⟩
theorem VB.start (w : World) (va vb sa sv so : Value) (en : Int) (ar : Array Value) (t : TypeId) : VB w (((w.alloc (.cells #[va, vb] 27)).alloc (.cells #[sa, sv, so, .int .i64 en] 33)).alloc (.cells ar t)) w.heap.size va vb sa sv so en ar.toList := by
  obtain ⟨h1, h2, h3⟩ := heap3 w (.cells #[va, vb] 27) (.cells #[sa, sv, so, .int .i64 en] 33) (.cells ar t)
  exact ⟨blk_range h1, blk_range h2, blk_range h3, ((alloc_below w _).alloc (by simp) _).alloc (by simp; omega) _⟩
structure Cx (ts : List AR) (A : List (List Int)) (va vb sa sv so fv : Value) (J : World → Prop) (nm : ByteArray → Int) : Prop where
  n : ts.length ≤ 1048576
  a : A.length ≤ 100000000
  b : ∀ xs ∈ A, xs.length ≤ 100000000
  vb : vb.oneCell' = true
  sv : sv.oneCell' = true
  so : so.oneCell' = true
  lk : Lk fv J nm
  on : ∀ w, J w → AV w 0 va ts ∧ IIV w 0 sa A
def ValC (ts : List AR) (A : List (List Int)) (va vb sa sv so fv : Value) (en : Int) (J : World → Prop) (nm : ByteArray → Int) (d : Nat) : Prop :=
  ∀ (x : X) (w : World) (v : Value), toldX d x = true → EV w 0 x.l v → J w → Calls Tryz.prog 50 #[.agg #[va, vb], .agg #[sa, sv, so, .int .i64 en], fv, .agg #[.int .i64 x.h.k, .int .i64 x.h.n, .string x.h.s, v]] w fun e w' => e = valR (evX ts A nm d x) ∧ Below w.heap.size w w'
theorem sizeAtF : (Tryz.prog.info? 146).map (·.size) = some 5 := by kernel_rfl
theorem sizeExp4 : (Tryz.prog.info? 43).map (·.size) = some 4 := by kernel_rfl
theorem rangeSub {w : World} {b o : Nat} {cs ds es : List Value} (h : w.rangeAt b o (cs ++ (ds ++ es))) : w.rangeAt b (o + cs.length) ds := rangeAt_part h rfl
set_option maxHeartbeats 2000000 in
set_option maxRecDepth 100000 in
theorem wordAt_of {ts : List AR} {A : List (List Int)} {va vb sa sv so fv : Value} {en : Int} {J : World → Prop} {nm : ByteArray → Int} {d : Nat} (cx : Cx ts A va vb sa sv so fv J nm) (ih : ValC ts A va vb sa sv so fv en J nm d)
    (s : ByteArray) (y : X) (w : World) (u : Value) (ht : toldX d y = true) (hu : EV w 0 y.l u) (hJ : J w) :
    Calls Tryz.prog 103 #[.agg #[va, vb], .agg #[sa, sv, so, .int .i64 en], fv, .agg #[.string s, .int .i64 y.h.k, .int .i64 y.h.n, .string y.h.s, u]] w fun e w' => e = valR ((evX ts A nm d y).bind (inA ts A s)) ∧ Below w.heap.size w w' := by
  have CX := hid cx
  have IH := hid ih
  have HU := hid hu
  have HJ := hid hJ
  have HT := hid ht
  have i1 := (cx.on w hJ).1.shape
  have i2 := (cx.on w hJ).2.shape
  obtain ⟨ua, uc, rfl⟩ := hu.shape
  obtain ⟨a1, b1, e1⟩ := i1
  obtain ⟨a2, b2, e2⟩ := i2
  obtain ⟨kf, caps, e3, hent, _⟩ := cx.lk.is
  have V0 := hid (VB.start w va vb sa sv so en #[.string s, .int .i64 y.h.k, .int .i64 y.h.n, .string y.h.s, .slice ua (elen y.l) uc] 146)
  have R0 : Hid ((((w.alloc (.cells #[va, vb] 27)).alloc (.cells #[sa, sv, so, .int .i64 en] 33)).alloc (.cells #[.string s, .int .i64 y.h.k, .int .i64 y.h.n, .string y.h.s, .slice ua (elen y.l) uc] 146)).rangeAt (w.heap.size + 2) 1 [.int .i64 y.h.k, .int .i64 y.h.n, .string y.h.s, .slice ua (elen y.l) uc]) := rangeSub (cs := [.string s]) (es := []) V0.out.re
  have o1 := cx.vb
  have o2 := cx.sv
  have o3 := cx.so
  have o4 : va.oneCell' = true := by rw [e1]; rfl
  have o5 : sa.oneCell' = true := by rw [e2]; rfl
  have o6 : fv.oneCell' = true := by rw [e3]; rfl
  clear cx ih hu hJ e1 e2 e3 hent ht
  go_enter Tryz.func103, Tryz.ntmps103
  go_wp2_with (first | (refine wpList_load_mid rfl 27 _ rfl w.heap.size 0 rfl _ _ V0.out.rp Tryz.underlying27 rfl sizeProg2 ?_) | (refine wpList_load_mid rfl 33 _ rfl (w.heap.size + 1) 0 rfl _ _ V0.out.rs Tryz.underlying33 rfl sizeSto2 ?_) | (refine wpList_load_mid rfl 43 _ rfl (w.heap.size + 2) 1 rfl _ _ R0.out Tryz.underlying43 rfl sizeExp4 ?_))
  refine (IH.out y _ _ HT.out (HU.out.later V0.out.b) (CX.out.lk.on _ _ HJ.out V0.out.b)).mono ?_
  rintro e w1 ⟨he, hb1⟩
  have V1 := hid (V0.out.later hb1)
  obtain ⟨r, hr⟩ : ∃ r, evX ts A nm d y = r := ⟨_, rfl⟩
  rw [hr] at he
  have HR := hid hr
  clear hb1 V0 R0 hr
  cases r with
  | none =>
    obtain rfl : e = .returned (.tuple #[.int .i64 0, .bool false]) := he
    go_wp2
    exact bodyPost_ret (v := .tuple #[.int .i64 0, .bool false]) (by simp [results, Tryz.results103, go_sem]) rfl ⟨by rw [HR.out]; rfl, V1.out.b⟩
  | some p =>
    obtain rfl : e = .returned (.tuple #[.int .i64 p, .bool true]) := he
    have c0 := V1.out.re 0 _ rfl
    have J1 := hid (CX.out.lk.on _ _ HJ.out V1.out.b)
    go_wp2_with (first | (refine wpList_load_mid rfl 27 _ rfl w.heap.size 0 rfl _ _ V1.out.rp Tryz.underlying27 rfl sizeProg2 ?_) | (refine wpList_load_mid rfl 33 _ rfl (w.heap.size + 1) 0 rfl _ _ V1.out.rs Tryz.underlying33 rfl sizeSto2 ?_))
    refine (spotOf_is ts CX.out.n A CX.out.a CX.out.b s p va vb sa sv so en CX.out.vb CX.out.sv CX.out.so _ (CX.out.on _ J1.out).1 (CX.out.on _ J1.out).2).mono ?_
    rintro e w2 ⟨hsp, hb2⟩
    have B2 := hid (V1.out.b.trans (hb2.mono V1.out.b.size))
    rcases hsp with ⟨hn, rfl⟩ | ⟨x, ad, hx, rfl, hat⟩
    · have hr : Hid ((some p).bind (inA ts A s) = none) := hn
      clear hn hb2 c0
      go_wp2
      exact bodyPost_ret (v := .tuple #[.int .i64 0, .bool false]) (by simp [results, Tryz.results103, go_sem]) rfl ⟨by rw [HR.out, hr.out]; rfl, B2.out⟩
    · have hr : Hid ((some p).bind (inA ts A s) = some x) := hx
      obtain ⟨k, m, go, oo, sl, sc, g, off, len, c, _, _, _, _, had, hcell⟩ := hat
      have hc2 := keeps hb2 hcell
      subst had
      clear hx hb2 c0 hcell
      go_wp2
      exact bodyPost_ret (v := .tuple #[.int .i64 x, .bool true]) (by simp [results, Tryz.results103, go_sem]) rfl ⟨by rw [HR.out, hr.out]; rfl, B2.out⟩
theorem told_at {d p q : Nat} {x y : X} (h : fnum x.h (elen x.l) = 3) (e : x.l = .node p q y.h y.l .nil) (ht : toldX (d + 1) x = true) : toldX d y = true := by
  rw [toldX_at h e] at ht; simp at ht; exact ht.2
theorem told_pair {d p q p' q' : Nat} {x y z : X} (h : fnum x.h (elen x.l) = 4) (e : x.l = .node p q y.h y.l (.node p' q' z.h z.l .nil)) (ht : toldX (d + 1) x = true) : toldX d y = true ∧ toldX d z = true := by
  rw [toldX_pair h e] at ht; simpa using ht
set_option maxHeartbeats 4000000 in
set_option maxRecDepth 100000 in
theorem valueOf_step {ts : List AR} {A : List (List Int)} {va vb sa sv so fv : Value} {en : Int} {J : World → Prop} {nm : ByteArray → Int} {d : Nat} (cx : Cx ts A va vb sa sv so fv J nm) (ih : ValC ts A va vb sa sv so fv en J nm d) : ValC ts A va vb sa sv so fv en J nm (d + 1) := fun x w v ht hv hJ => by
  have CX := hid cx
  have IH := hid ih
  have Hv := hid hv
  have HJ := hid hJ
  have HT := hid ht
  obtain ⟨kf, caps, e3, hent, hcall⟩ := cx.lk.is
  have HC := hid hcall
  obtain ⟨a1, b1, e1⟩ := (cx.on w hJ).1.shape
  obtain ⟨a2, b2, e2⟩ := (cx.on w hJ).2.shape
  have V0 := hid (VB.start w va vb sa sv so en #[.int .i64 x.h.k, .int .i64 x.h.n, .string x.h.s, v] 43)
  have Hq : Hid (∀ w, EV w 0 x.l v → Calls Tryz.prog 102 #[.agg #[.int .i64 x.h.k, .int .i64 x.h.n, .string x.h.s, v]] w fun e w' => ∃ fv, e = .returned fv ∧ FormIs w x fv ∧ Below w.heap.size w w') := fun w hv => formOf_is x w v hv
  have o1 := cx.vb
  have o2 := cx.sv
  have o3 := cx.so
  have o4 : va.oneCell' = true := by rw [e1]; rfl
  have o5 : sa.oneCell' = true := by rw [e2]; rfl
  have o6 := hv.isOne
  subst e3
  clear cx ih hv hJ e1 e2 ht hcall
  go_enter Tryz.func50, Tryz.ntmps50
  go_wp2_with (refine wpList_load_mid rfl 43 _ rfl (w.heap.size + 2) 0 rfl _ _ V0.out.re Tryz.underlying43 rfl sizeExp4 ?_)
  refine (Hq.out _ (Hv.out.later V0.out.b)).mono ?_
  rintro e w1 ⟨gv, rfl, hform, hb1⟩
  have V1 := hid (V0.out.later hb1)
  have Hb1 := hid hb1
  clear V0 Hq hb1
  rcases hform with ⟨hf, rfl⟩ | ⟨hf, rfl⟩ | ⟨hf, p, q, y, u, hl, hu, rfl⟩ | ⟨hf, p, q, p', q', y, z, u, u', hl, hu, hu', rfl⟩ | ⟨hf, rfl⟩
  · have hr : Hid (evX ts A nm (d + 1) x = some x.h.n) := evX_num hf
    have q1 := as_nn
    clear hf
    go_wp2
    exact bodyPost_ret (v := .tuple #[.int .i64 x.h.n, .bool true]) (by simp [results, Tryz.results50, go_sem]) rfl ⟨by rw [hr.out]; rfl, V1.out.b.alloc V1.out.b.size _⟩
  · have hr : Hid (evX ts A nm (d + 1) x = some (nm x.h.s)) := evX_var hf
    have q1 := as_vn
    have q2 := as_vv
    have B1 := hid (V1.out.b.alloc V1.out.b.size (.cells #[.string x.h.s] 144))
    clear hf
    go_wp2_with fail
    refine (HC.out _ (CX.out.lk.on _ _ HJ.out B1.out) x.h.s).mono ?_
    rintro e w2 ⟨rfl, hb2⟩
    have B2 := hid (B1.out.trans (hb2.mono B1.out.size))
    clear hb2
    go_wp2
    exact bodyPost_ret (v := .tuple #[.int .i64 (nm x.h.s), .bool true]) (by simp [results, Tryz.results50, go_sem]) rfl ⟨by rw [hr.out]; rfl, B2.out⟩
  · have hr := hid (evX_at (ts := ts) (A := A) (nm := nm) (d := d) hf hl)
    have TY := hid (told_at hf hl HT.out)
    have q1 := as_an
    have q2 := as_av
    have q3 := as_aa
    have HU := hid hu
    obtain ⟨ua, uc, rfl⟩ := hu.shape
    have V2 := hid (V1.out.later (alloc_below w1 (.cells #[.string x.h.s, .int .i64 y.h.k, .int .i64 y.h.n, .string y.h.s, .slice ua (elen y.l) uc] 146)))
    have RF : Hid ((w1.alloc (.cells #[.string x.h.s, .int .i64 y.h.k, .int .i64 y.h.n, .string y.h.s, .slice ua (elen y.l) uc] 146)).rangeAt w1.heap.size 0 [.string x.h.s, .int .i64 y.h.k, .int .i64 y.h.n, .string y.h.s, .slice ua (elen y.l) uc]) := blk_range (blkLast _ _)
    clear hf hu hl
    go_wp2_with (first | (refine wpList_load_mid rfl 27 _ rfl w.heap.size 0 rfl _ _ V2.out.rp Tryz.underlying27 rfl sizeProg2 ?_) | (refine wpList_load_mid rfl 33 _ rfl (w.heap.size + 1) 0 rfl _ _ V2.out.rs Tryz.underlying33 rfl sizeSto2 ?_) | (refine wpList_load_mid rfl 146 _ rfl w1.heap.size 0 rfl _ _ RF.out Tryz.underlying146 rfl sizeAtF ?_))
    refine (wordAt_of CX.out IH.out x.h.s y _ _ TY.out (HU.out.later (Hb1.out.trans ((alloc_below w1 _).mono Hb1.out.size))) (CX.out.lk.on _ _ HJ.out V2.out.b)).mono ?_
    rintro e w3 ⟨he, hb3⟩
    have B3 := hid (V2.out.b.trans (hb3.mono V2.out.b.size))
    obtain ⟨r, hrr⟩ : ∃ r, (evX ts A nm d y).bind (inA ts A x.h.s) = r := ⟨_, rfl⟩
    rw [hrr] at hr he
    obtain rfl : e = .returned (.tuple #[.int .i64 (r.getD 0), .bool r.isSome]) := he
    clear hb3 hrr
    go_wp2
    exact bodyPost_ret (v := .tuple #[.int .i64 (r.getD 0), .bool r.isSome]) (by simp [results, Tryz.results50, go_sem]) rfl ⟨by rw [hr.out]; rfl, B3.out⟩
  · have hr := hid (evX_pair (ts := ts) (A := A) (nm := nm) (d := d) hf hl)
    have TY := hid (told_pair hf hl HT.out)
    have K4 := hid (fnum4 hf)
    have q1 := as_pn
    have q2 := as_pv
    have q3 := as_pa
    have q4 := as_pp
    have HU := hid (And.intro hu hu')
    obtain ⟨ua, uc, rfl⟩ := hu.shape
    obtain ⟨ua', uc', rfl⟩ := hu'.shape
    have V2 := hid (V1.out.later (alloc_below w1 (.cells #[.int .i64 y.h.k, .int .i64 y.h.n, .string y.h.s, .slice ua (elen y.l) uc, .int .i64 z.h.k, .int .i64 z.h.n, .string z.h.s, .slice ua' (elen z.l) uc'] 149)))
    have RF : Hid ((w1.alloc (.cells #[.int .i64 y.h.k, .int .i64 y.h.n, .string y.h.s, .slice ua (elen y.l) uc, .int .i64 z.h.k, .int .i64 z.h.n, .string z.h.s, .slice ua' (elen z.l) uc'] 149)).rangeAt w1.heap.size 0 ([.int .i64 y.h.k, .int .i64 y.h.n, .string y.h.s, .slice ua (elen y.l) uc] ++ ([.int .i64 z.h.k, .int .i64 z.h.n, .string z.h.s, .slice ua' (elen z.l) uc'] ++ []))) := blk_range (blkLast _ _)
    have R1 : Hid ((w1.alloc (.cells #[.int .i64 y.h.k, .int .i64 y.h.n, .string y.h.s, .slice ua (elen y.l) uc, .int .i64 z.h.k, .int .i64 z.h.n, .string z.h.s, .slice ua' (elen z.l) uc'] 149)).rangeAt w1.heap.size 0 [.int .i64 y.h.k, .int .i64 y.h.n, .string y.h.s, .slice ua (elen y.l) uc]) := rangeSub (cs := []) RF.out
    clear hf hu hu' hl
    go_wp2_with (first | (refine wpList_load_mid rfl 27 _ rfl w.heap.size 0 rfl _ _ V2.out.rp Tryz.underlying27 rfl sizeProg2 ?_) | (refine wpList_load_mid rfl 33 _ rfl (w.heap.size + 1) 0 rfl _ _ V2.out.rs Tryz.underlying33 rfl sizeSto2 ?_) | (refine wpList_load_mid rfl 43 _ rfl w1.heap.size 0 rfl _ _ R1.out Tryz.underlying43 rfl sizeExp4 ?_))
    refine (IH.out y _ _ TY.out.1 (HU.out.1.later (Hb1.out.trans ((alloc_below w1 _).mono Hb1.out.size))) (CX.out.lk.on _ _ HJ.out V2.out.b)).mono ?_
    rintro e w3 ⟨he, hb3⟩
    have V3 := hid (V2.out.later hb3)
    have R3 := hid (rangeAt_later (rangeSub RF.out) hb3)
    have HZ := hid (HU.out.2.later ((Hb1.out.trans ((alloc_below w1 (.cells #[.int .i64 y.h.k, .int .i64 y.h.n, .string y.h.s, .slice ua (elen y.l) uc, .int .i64 z.h.k, .int .i64 z.h.n, .string z.h.s, .slice ua' (elen z.l) uc'] 149)).mono Hb1.out.size)).trans (hb3.mono (Hb1.out.trans ((alloc_below w1 (.cells #[.int .i64 y.h.k, .int .i64 y.h.n, .string y.h.s, .slice ua (elen y.l) uc, .int .i64 z.h.k, .int .i64 z.h.n, .string z.h.s, .slice ua' (elen z.l) uc'] 149)).mono Hb1.out.size)).size)))
    obtain ⟨r, hrr⟩ : ∃ r, evX ts A nm d y = r := ⟨_, rfl⟩
    rw [hrr] at hr he
    obtain rfl : e = .returned (.tuple #[.int .i64 (r.getD 0), .bool r.isSome]) := he
    clear hb3 hrr V2 RF R1
    go_wp2_with (first | (refine wpList_load_mid rfl 27 _ rfl w.heap.size 0 rfl _ _ V3.out.rp Tryz.underlying27 rfl sizeProg2 ?_) | (refine wpList_load_mid rfl 33 _ rfl (w.heap.size + 1) 0 rfl _ _ V3.out.rs Tryz.underlying33 rfl sizeSto2 ?_) | (refine wpList_load_mid rfl 43 _ rfl w1.heap.size 4 rfl _ _ R3.out Tryz.underlying43 rfl sizeExp4 ?_))
    refine (IH.out z _ _ TY.out.2 HZ.out (CX.out.lk.on _ _ HJ.out V3.out.b)).mono ?_
    rintro e w4 ⟨he, hb4⟩
    have V4 := hid (V3.out.later hb4)
    obtain ⟨r2, hrr⟩ : ∃ r, evX ts A nm d z = r := ⟨_, rfl⟩
    rw [hrr] at hr he
    obtain rfl : e = .returned (.tuple #[.int .i64 (r2.getD 0), .bool r2.isSome]) := he
    have c0 := V4.out.re 0 _ rfl
    clear hb4 hrr V3 R3
    cases r with
    | none =>
      go_wp2
      exact bodyPost_ret (v := .tuple #[.int .i64 0, .bool false]) (by simp [results, Tryz.results50, go_sem]) rfl ⟨by rw [hr.out]; rfl, V4.out.b⟩
    | some a =>
      cases r2 with
      | none =>
        go_wp2
        exact bodyPost_ret (v := .tuple #[.int .i64 0, .bool false]) (by simp [results, Tryz.results50, go_sem]) rfl ⟨by rw [hr.out]; rfl, V4.out.b⟩
      | some b =>
        go_wp2_with fail
        refine (pairValue_is x.h.k a b K4.out _).mono ?_
        rintro e w5 ⟨rfl, rfl⟩
        go_wp2
        exact bodyPost_ret (v := .tuple #[.int .i64 (opV x.h.k a b), .bool true]) (by simp [results, Tryz.results50, go_sem]) rfl ⟨by rw [hr.out]; rfl, V4.out.b⟩
  · have hr := toldX_none (d := d) hf
    rw [HT.out] at hr
    cases hr
theorem valueOf_all {ts : List AR} {A : List (List Int)} {va vb sa sv so fv : Value} {en : Int} {J : World → Prop} {nm : ByteArray → Int} (cx : Cx ts A va vb sa sv so fv J nm) : ∀ d, ValC ts A va vb sa sv so fv en J nm d
  | 0 => fun x w v ht _ _ => by rw [toldX_zero] at ht; cases ht
  | d + 1 => valueOf_step cx (valueOf_all cx d)
structure St where
  A : List (List Int)
  V : List Int
  O : List Int
  f : Nat
abbrev Job := SF ⊕ (ByteArray × SF × Int × Int)
def putA (ts : List AR) (A : List (List Int)) (s : ByteArray) (p n : Int) : List (List Int) := A.modify (arrGo ts 0 s).toNat fun xs => xs.set p.toNat n
def evS (ts : List AR) (ns : List ByteArray) (bs : List AR) (s : St) (x : X) : Option Int := evX ts s.A (withN bs (varN ns s.V)) 8 x
def simple (ts : List AR) (ns : List ByteArray) (bs : List AR) (h : SH) (s : St) : Nat × St :=
  if h.k = 1 then (match evS ts ns bs s h.x2 with | none => (1, s) | some n => (0, { s with V := s.V.set (idxGo ns 0 h.s).toNat n }))
  else if h.k = 2 then (match evS ts ns bs s h.x1, evS ts ns bs s h.x2 with
    | some p, some n => if (inA ts s.A h.s p).isSome = true then (0, { s with A := putA ts s.A h.s p n }) else (1, s)
    | _, _ => (1, s))
  else (match evS ts ns bs s h.x2 with | none => (1, s) | some n => (0, { s with O := s.O ++ [n] }))
def andThen (r : Nat × St) (k : St → Nat × St) : Nat × St := if r.1 = 0 then k r.2 else r
def stepS (ts : List AR) (ns : List ByteArray) (bs : List AR) (h : SH) (s : St) (rounds : Int → Int → St → Nat × St) : Nat × St :=
  if h.k = 3 then (match evS ts ns bs s h.x3, evS ts ns bs s h.x4 with
    | some lo, some hi => rounds lo hi s
    | _, _ => (1, s))
  else simple ts ns bs h s
def burnt (s : St) : St := { s with f := s.f - 1 }
def exec (ts : List AR) (ns : List ByteArray) : Nat → List AR → Job → St → Nat × St
  | 0, _, _, s => (2, s)
  | _ + 1, _, .inl .nil, s => (0, s)
  | g + 1, bs, .inl (.node _ _ h l r), s =>
    if s.f = 0 then (2, s) else andThen (stepS ts ns bs h (burnt s) fun lo hi s' => exec ts ns g bs (.inr (h.s, l, lo, hi)) s') fun s' => exec ts ns g bs (.inl r) s'
  | g + 1, bs, .inr (nm, l, n, hi), s =>
    if n > hi then (0, s) else if s.f = 0 then (2, s) else andThen (exec ts ns g (bs ++ [⟨nm, n⟩]) (.inl l) (burnt s)) fun s' => exec ts ns g bs (.inr (nm, l, n + 1, hi)) s'
structure Like (s t : St) : Prop where
  f : t.f ≤ s.f
  v : t.V.length = s.V.length
  a : t.A.map List.length = s.A.map List.length
theorem Like.refl (s : St) : Like s s := ⟨Nat.le_refl _, rfl, rfl⟩
theorem Like.trans {a b c : St} (h : Like a b) (k : Like b c) : Like a c := ⟨Nat.le_trans k.f h.f, k.v.trans h.v, k.a.trans h.a⟩
theorem Like.burn (s : St) : Like s (burnt s) := ⟨Nat.sub_le _ _, rfl, rfl⟩
theorem putA_len (ts : List AR) (A : List (List Int)) (s : ByteArray) (p n : Int) : (putA ts A s p n).map List.length = A.map List.length := by
  unfold putA
  apply List.ext_getElem?
  intro i
  simp only [List.getElem?_map, List.getElem?_modify]
  cases A[i]? with
  | none => rfl
  | some xs =>
    simp only [Option.map_some]
    split
    · simp
    · simp
theorem simple_like (ts : List AR) (ns : List ByteArray) (bs : List AR) (h : SH) (s : St) : Like s (simple ts ns bs h s).2 := by
  unfold simple
  split
  · split
    · exact Like.refl _
    · exact ⟨Nat.le_refl _, by simp, rfl⟩
  · split
    · split
      · split
        · exact ⟨Nat.le_refl _, rfl, putA_len _ _ _ _ _⟩
        · exact Like.refl _
      · exact Like.refl _
    · split
      · exact Like.refl _
      · exact ⟨Nat.le_refl _, rfl, rfl⟩
theorem then_like {s : St} {r : Nat × St} {k : St → Nat × St} (h : Like s r.2) (hk : ∀ t, Like t (k t).2) : Like s (andThen r k).2 := by
  unfold andThen
  split
  · exact h.trans (hk _)
  · exact h
theorem stepS_like (ts : List AR) (ns : List ByteArray) (bs : List AR) (h : SH) (s : St) {rounds : Int → Int → St → Nat × St} (hr : ∀ lo hi t, Like t (rounds lo hi t).2) : Like s (stepS ts ns bs h s rounds).2 := by
  unfold stepS
  split
  · split
    · exact hr _ _ _
    · exact Like.refl _
  · exact simple_like _ _ _ _ _
theorem exec_like (ts : List AR) (ns : List ByteArray) : ∀ (g : Nat) (bs : List AR) (j : Job) (s : St), Like s (exec ts ns g bs j s).2
  | 0, _, _, s => Like.refl _
  | g + 1, bs, .inl .nil, s => Like.refl _
  | g + 1, bs, .inl (.node p q h l r), s => by
    rw [exec]
    split
    · exact Like.refl _
    · exact then_like ((Like.burn s).trans (stepS_like _ _ _ _ _ fun lo hi t => exec_like ts ns g _ _ t)) fun t => exec_like ts ns g _ _ t
  | g + 1, bs, .inr (nm, l, n, hi), s => by
    rw [exec]
    split
    · exact Like.refl _
    · split
      · exact Like.refl _
      · exact then_like ((Like.burn s).trans (exec_like ts ns g _ _ _)) fun t => exec_like ts ns g _ _ t
theorem withN_snoc (bs : List AR) (b : AR) (nm : ByteArray → Int) : withN (bs ++ [b]) nm = withN [b] (withN bs nm) := by
  funext s
  simp only [withN, List.reverse_append, List.reverse_cons, List.reverse_nil, List.nil_append, List.cons_append, bindOf]
  split <;> simp
end Go.Proofs.YtfoghiminlbdaaaGreat
