/-
  The contracts of the specification's l6Level, l6At, l6Exp.
-/
import Derived.Test.YtkhccpjkajhnpabGreatDoorP05ofProgText
import Derived.Test.YtkhccpjkajhnpabGreatDoorP07ofProgText
import Derived.Deep.RegionHeld
namespace Go.Proofs.YtkhccpjkajhnpabGreatDoor
open Go.RowKit Go.Lib
set_option linter.unusedSimpArgs false
set_option linter.unusedVariables false

theorem lvl1 {k : Int} (h : k = 4 ∨ k = 5) : lvl k = 1 := if_pos h
theorem lvl2 : lvl 6 = 2 := by decide
theorem lvl3 {k : Int} (h1 : ¬ k = 4) (h2 : ¬ k = 5) (h3 : ¬ k = 6) : lvl k = 3 := by unfold lvl; rw [if_neg (by omega), if_neg h3]
set_option maxRecDepth 100000 in
theorem l6Level_is (x : X) (v : Value) (w : World) : Calls Tryz.prog 75 #[.agg (xcells x v).toArray] w fun e w' => e = .returned (.int .i64 (lvl x.h.k : Int)) ∧ Below w.heap.size w w' := by
  obtain ⟨⟨k, n, s⟩, l⟩ := x
  show Calls Tryz.prog 75 #[.agg #[.int .i64 k, .int .i64 n, .string s, v]] w _
  have B := Lib.hid (fun o => alloc_below w o)
  by_cases h4 : k = 4
  · subst h4
    go_enter Tryz.func75, Tryz.ntmps75
    go_wp2
    go_ret
    exact ⟨rfl, B.out _⟩
  · by_cases h5 : k = 5
    · subst h5
      go_enter Tryz.func75, Tryz.ntmps75
      go_wp2
      go_ret
      exact ⟨rfl, B.out _⟩
    · by_cases h6 : k = 6
      · subst h6
        go_enter Tryz.func75, Tryz.ntmps75
        go_wp2
        go_ret
        exact ⟨rfl, B.out _⟩
      · have E := Lib.hid (lvl3 h4 h5 h6)
        have e4 := int_ne h4
        have e5 := int_ne h5
        have e6 := int_ne h6
        go_enter Tryz.func75, Tryz.ntmps75
        go_wp2
        go_ret
        exact ⟨by show Ending.returned (.int .i64 3) = .returned (.int .i64 (lvl k : Int)); rw [E.out]; rfl, B.out _⟩
/-- The text of a part, in brackets where it holds too little. -/
theorem side_yes {a : PT} {n : Nat} (h : a.1 < n) : side a n = 40 :: (a.2 ++ [41]) := if_pos h
theorem side_no {a : PT} {n : Nat} (h : ¬ a.1 < n) : side a n = a.2 := if_neg h
theorem lit_str (l : List UInt8) : (⟨l.toArray⟩ : ByteArray) = str l := rfl
set_option maxHeartbeats 1000000 in
set_option maxRecDepth 100000 in
theorem l6At_of (x : X) (hlen : (xT x).length ≤ 1000000) (n : Nat) (hn : n ≤ 3) (w : World) (v : Value) (hv : EV w 0 x.l v)
    (ih : ∀ w', EV w' 0 x.l v → Calls Tryz.prog 33 #[.agg (xcells x v).toArray] w' fun e w'' => e = .returned (.string (str (xT x))) ∧ Below w'.heap.size w' w'') :
    Calls Tryz.prog 57 #[.agg (xcells x v).toArray, .int .i64 (n : Int)] w fun e w' => e = .returned (.string (str (side (xP x) n))) ∧ Below w.heap.size w w' := by
  have B := Lib.hid (alloc_below w (.cells (xcells x v).toArray 65))
  have R0 := Lib.hid (show (w.alloc (.cells (xcells x v).toArray 65)).rangeAt w.heap.size 0 (xcells x v) from new_range w (xcells x v).toArray 65)
  have CI := Lib.hid (ih _ (hv.later B.out))
  obtain ⟨T, HT⟩ : ∃ T, Hid (str (xT x) = T) := ⟨_, rfl⟩
  have hTs : T.size ≤ 1000000 := by rw [← HT.out, str_size]; exact hlen
  rw [HT.out] at CI
  have HP := Lib.hid (show (xP x).1 = lvl x.h.k from rfl)
  have hl : lvl x.h.k ≤ 3 := by unfold lvl; repeat' split <;> try omega
  clear ih hv
  show Calls Tryz.prog 57 #[.agg #[.int .i64 x.h.k, .int .i64 x.h.n, .string x.h.s, v], .int .i64 (n : Int)] w _
  by_cases hlt : lvl x.h.k < n
  · have hltI : (lvl x.h.k : Int) < (n : Int) := by omega
    have E := Lib.hid (show str (side (xP x) n) = (str [40] ++ T) ++ str [41] by rw [← HT.out, str_app, str_app, side_yes (by rw [HP.out]; exact hlt)]; rfl)
    rw [E.out]
    go_enter Tryz.func57, Tryz.ntmps57
    go_wp2_with fail
    refine CI.out.mono ?_
    rintro e w1 ⟨rfl, hb1⟩
    have B1 := Lib.hid (below_alloc hb1)
    have R1 := Lib.hid (rangeAt_later R0.out hb1)
    clear hb1 CI
    go_wp2_with (refine wpList_load_mid rfl 65 _ rfl w.heap.size 0 rfl _ _ R1.out Tryz.underlying65 rfl sizeIE2 ?_)
    refine (l6Level_is x v _).mono ?_
    rintro e w2 ⟨rfl, hb2⟩
    have B2 := Lib.hid (B1.out.trans (hb2.mono B1.out.size))
    clear hb2
    go_wp2
    go_ret
    exact ⟨rfl, B2.out⟩
  · have hltI : ¬ (lvl x.h.k : Int) < (n : Int) := by omega
    have E := Lib.hid (show str (side (xP x) n) = T by rw [← HT.out, side_no (by rw [HP.out]; exact hlt)]; rfl)
    rw [E.out]
    go_enter Tryz.func57, Tryz.ntmps57
    go_wp2_with fail
    refine CI.out.mono ?_
    rintro e w1 ⟨rfl, hb1⟩
    have B1 := Lib.hid (below_alloc hb1)
    have R1 := Lib.hid (rangeAt_later R0.out hb1)
    clear hb1 CI
    go_wp2_with (refine wpList_load_mid rfl 65 _ rfl w.heap.size 0 rfl _ _ R1.out Tryz.underlying65 rfl sizeIE2 ?_)
    refine (l6Level_is x v _).mono ?_
    rintro e w2 ⟨rfl, hb2⟩
    have B2 := Lib.hid (B1.out.trans (hb2.mono B1.out.size))
    clear hb2
    go_wp2
    go_ret
    exact ⟨rfl, B2.out⟩
theorem at_two {w : World} {b o : Nat} {p q p' q' : Nat} {y z : X} (h : EIn w 0 (.node p q y.h y.l (.node p' q' z.h z.l .nil)) b o) : ∃ u1 u2, w.rangeAt b o (xcells y u1) ∧ w.rangeAt b (o + 4) (xcells z u2) ∧ EV w 0 y.l u1 ∧ EV w 0 z.l u2 := by
  obtain ⟨⟨a0, a1, a2, u1, a3, h1⟩, hr⟩ := EIn_node.1 h
  obtain ⟨⟨b0, b1, b2, u2, b3, h2⟩, _⟩ := EIn_node.1 hr
  exact ⟨u1, u2, x_range (x := y) a0 a1 a2 a3, x_range (x := z) b0 b1 b2 b3, h1, h2⟩
theorem at_one {w : World} {b o : Nat} {p q : Nat} {y : X} (h : EIn w 0 (.node p q y.h y.l .nil) b o) : ∃ u1, w.rangeAt b o (xcells y u1) ∧ EV w 0 y.l u1 := by
  obtain ⟨⟨a0, a1, a2, u1, a3, h1⟩, _⟩ := EIn_node.1 h
  exact ⟨u1, x_range (x := y) a0 a1 a2 a3, h1⟩
theorem app_str (s : ByteArray) (l : List UInt8) : s ++ str l = str (s.data.toList ++ l) := by rw [← str_app, str_of]
theorem EV.someRow {w : World} {F : EF} {v : Value} {m : Nat} (h : EV w 0 F v) (hne : F ≠ .nil) (hm : elen F = m) : ∃ b o c, v = .slice (some ⟨b, o, Option.none⟩) m c ∧ EIn w 0 F b o := by
  obtain ⟨b, o, a, c, rfl, ha, _, hin⟩ := h
  obtain rfl := ha.resolve_right hne
  subst hm
  exact ⟨b, o, c, rfl, hin⟩
/-- What l6Exp says of expressions that are as told so deep. -/
def TxtC (f : Nat) (d : Nat) : Prop := ∀ (x : X), toldX d x = true → enodes x.l ≤ 100 → ∀ (w : World) (v : Value), EV w 0 x.l v → Calls Tryz.prog f #[.agg (xcells x v).toArray] w fun e w' => e = .returned (.string (str (xT x))) ∧ Below w.heap.size w w'
set_option maxHeartbeats 4000000 in
set_option maxRecDepth 100000 in
theorem l6Exp_3 (d : Nat) (ih : TxtC 33 d) (n : Int) (s : ByteArray) (p q : Nat) (y : X) (hs : s.size ≤ 6) (hy : toldX d y = true) (hn : enodes y.l ≤ 100) (w : World) (v : Value) (hv : EV w 0 (.node p q y.h y.l .nil) v) :
    Calls Tryz.prog 33 #[.agg #[.int .i64 3, .int .i64 n, .string s, v]] w fun e w' => e = .returned (.string (str (s.data.toList ++ (91 :: (xT y ++ [93]))))) ∧ Below w.heap.size w w' := by
  obtain ⟨b, o, c, rfl, hin⟩ := hv.someRow (m := 1) (by simp) rfl
  have B := Lib.hid (alloc_below w (.cells #[.int .i64 3, .int .i64 n, .string s, .slice (some ⟨b, o, Option.none⟩) 1 c] 65))
  obtain ⟨w1, W1⟩ : ∃ w1, Hid (w1 = w.alloc (.cells #[.int .i64 3, .int .i64 n, .string s, .slice (some ⟨b, o, Option.none⟩) 1 c] 65)) := ⟨_, rfl⟩
  have R := Lib.hid (show w1.rangeAt w.heap.size 0 [.int .i64 3, .int .i64 n, .string s, .slice (some ⟨b, o, Option.none⟩) 1 c] by rw [W1.out]; exact new_range w #[.int .i64 3, .int .i64 n, .string s, .slice (some ⟨b, o, Option.none⟩) 1 c] 65)
  have B1 := Lib.hid (show Below w.heap.size w w1 by rw [W1.out]; exact B.out)
  obtain ⟨u1, r1, hu1⟩ := at_one hin
  have RY := Lib.hid (rangeAt_later r1 B1.out)
  have hlen := xT_len d y hy
  obtain ⟨T, HT⟩ : ∃ T, Hid (str (xT y) = T) := ⟨_, rfl⟩
  have hTs : T.size ≤ 1000000 := by rw [← HT.out, str_size]; omega
  have CI : Hid (∀ w', Below w1.heap.size w1 w' → Calls Tryz.prog 33 #[.agg (xcells y u1).toArray] w' fun e w'' => e = .returned (.string T) ∧ Below w'.heap.size w' w'') := Lib.hid (fun w' hb => by rw [← HT.out]; exact ih y hy hn w' u1 ((hu1.later B1.out).later hb))
  have E := Lib.hid (show ((s ++ str [91]) ++ T) ++ str [93] = str (s.data.toList ++ (91 :: (xT y ++ [93]))) by rw [← HT.out, app_str s [91], str_app, str_app]; simp)
  have bd : Below w1.heap.size w1 w1.drew := (Below.refl _ w1).drew
  clear hv hin B
  go_enter Tryz.func33, Tryz.ntmps33
  go_wp2_with fail
  rw [← W1.out]
  clear W1
  refine wp_region_held_drew (S := Below w1.heap.size w1) (by kernel_rfl) bd (fun hHeld => ?_)
  refine wpAnyH_take (i := 0) (v := .pointer (some ⟨w.heap.size, 2, Option.none⟩)) rfl (by kernel_rfl) (by kernel_rfl) (by kernel_rfl) (fun _ _ _ h => h) (Or.inl ⟨by rfl, ?yc0⟩) hHeld ?_
  case yc0 => intro w hSw; go_simp
  simp only [Act.put, List.getElem_toArray, List.getElem_cons_succ, List.getElem_cons_zero, List.setIfInBounds_toArray, List.set_cons_zero, List.set_cons_succ]
  refine wpAnyH_take (i := 1) (v := .string s) rfl (by kernel_rfl) (by kernel_rfl) (by kernel_rfl) (fun _ _ _ h => h) (Or.inl ⟨by rfl, ?yc1⟩) hHeld ?_
  case yc1 => intro w hSw; have q := rangeAt_later R.out hSw 2 _ rfl; go_simp
  simp only [Act.put, List.getElem_toArray, List.getElem_cons_succ, List.getElem_cons_zero, List.setIfInBounds_toArray, List.set_cons_zero, List.set_cons_succ]
  refine wpAnyH_take (i := 2) (v := .string (s ++ (⟨#[91]⟩ : ByteArray))) rfl (by kernel_rfl) (by kernel_rfl) (by kernel_rfl) (fun _ _ _ h => h) (Or.inl ⟨by rfl, ?yc2⟩) hHeld ?_
  case yc2 => intro w hSw; first | (go_simp; done) | (go_simp; rw [if_neg (by omega)]; done) | (go_simp; rw [if_neg (by simp only [ByteArray.size_append]; omega)]; done) | (go_simp; omega) | (go_simp; simp only [ByteArray.size_append]; omega)
  simp only [Act.put, List.getElem_toArray, List.getElem_cons_succ, List.getElem_cons_zero, List.setIfInBounds_toArray, List.set_cons_zero, List.set_cons_succ]
  refine wpAnyH_take (i := 3) (v := .pointer (some ⟨w.heap.size, 3, Option.none⟩)) rfl (by kernel_rfl) (by kernel_rfl) (by kernel_rfl) (fun _ _ _ h => h) (Or.inl ⟨by rfl, ?yc3⟩) hHeld ?_
  case yc3 => intro w hSw; go_simp
  simp only [Act.put, List.getElem_toArray, List.getElem_cons_succ, List.getElem_cons_zero, List.setIfInBounds_toArray, List.set_cons_zero, List.set_cons_succ]
  refine wpAnyH_take (i := 4) (v := .slice (some ⟨b, o, Option.none⟩) 1 c) rfl (by kernel_rfl) (by kernel_rfl) (by kernel_rfl) (fun _ _ _ h => h) (Or.inl ⟨by rfl, ?yc4⟩) hHeld ?_
  case yc4 => intro w hSw; have q := rangeAt_later R.out hSw 3 _ rfl; go_simp
  simp only [Act.put, List.getElem_toArray, List.getElem_cons_succ, List.getElem_cons_zero, List.setIfInBounds_toArray, List.set_cons_zero, List.set_cons_succ]
  refine wpAnyH_take (i := 5) (v := .pointer (some ⟨b, o, Option.none⟩)) rfl (by kernel_rfl) (by kernel_rfl) (by kernel_rfl) (fun _ _ _ h => h) (Or.inl ⟨by rfl, ?yc5⟩) hHeld ?_
  case yc5 => intro w hSw; go_simp
  simp only [Act.put, List.getElem_toArray, List.getElem_cons_succ, List.getElem_cons_zero, List.setIfInBounds_toArray, List.set_cons_zero, List.set_cons_succ]
  refine wpAnyH_take (i := 6) (v := .agg (xcells y u1).toArray) rfl (by kernel_rfl) (by kernel_rfl) (by kernel_rfl) (fun _ _ _ h => h) (yieldsIf_load_mid (by rfl) 65 _ rfl (b) (o) rfl (xcells y u1) _ (fun w h => rangeAt_later RY.out h) Tryz.underlying65 rfl sizeIE2) hHeld ?_
  simp only [Act.put, List.getElem_toArray, List.getElem_cons_succ, List.getElem_cons_zero, List.setIfInBounds_toArray, List.set_cons_zero, List.set_cons_succ]
  refine wpAnyH_ready (rs := [7]) (by kernel_rfl) (by simp) ?_
  refine AllReadyH.cons rfl (fun K hK => ?_) AllReadyH.nil
  rw [if_pos (by rfl)]
  simp only [List.getElem_toArray, List.getElem_cons_succ, List.getElem_cons_zero]
  go_wp2_with fail
  refine (CI.out _ hHeld).mono ?_
  rintro e w5 ⟨rfl, hb5⟩
  go_wp2_with fail
  refine hK.out _ _ (hHeld.trans (hb5.mono hHeld.size)) (fun hHeld => ?_)
  refine wpAnyH_take (i := 8) (v := .string ((s ++ (⟨#[91]⟩ : ByteArray)) ++ T)) rfl (by kernel_rfl) (by kernel_rfl) (by kernel_rfl) (fun _ _ _ h => h) (Or.inl ⟨by rfl, ?yc8⟩) hHeld ?_
  case yc8 => intro w hSw; first | (go_simp; done) | (go_simp; rw [if_neg (by omega)]; done) | (go_simp; rw [if_neg (by simp only [ByteArray.size_append]; omega)]; done) | (go_simp; omega) | (go_simp; simp only [ByteArray.size_append]; omega)
  simp only [Act.put, List.getElem_toArray, List.getElem_cons_succ, List.getElem_cons_zero, List.setIfInBounds_toArray, List.set_cons_zero, List.set_cons_succ]
  refine wpAnyH_take (i := 9) (v := .string (((s ++ (⟨#[91]⟩ : ByteArray)) ++ T) ++ (⟨#[93]⟩ : ByteArray))) rfl (by kernel_rfl) (by kernel_rfl) (by kernel_rfl) (fun _ _ _ h => h) (Or.inl ⟨by rfl, ?yc9⟩) hHeld ?_
  case yc9 => intro w hSw; first | (go_simp; done) | (go_simp; rw [if_neg (by omega)]; done) | (go_simp; rw [if_neg (by simp only [ByteArray.size_append]; omega)]; done) | (go_simp; omega) | (go_simp; simp only [ByteArray.size_append]; omega)
  simp only [Act.put, List.getElem_toArray, List.getElem_cons_succ, List.getElem_cons_zero, List.setIfInBounds_toArray, List.set_cons_zero, List.set_cons_succ]
  refine wpAnyH_take (i := 10) (v := .string (((s ++ (⟨#[91]⟩ : ByteArray)) ++ T) ++ (⟨#[93]⟩ : ByteArray))) rfl (by kernel_rfl) (by kernel_rfl) (by kernel_rfl) (fun _ _ _ h => h) (Or.inl ⟨by rfl, ?yc10⟩) hHeld ?_
  case yc10 => intro w hSw; go_simp
  simp only [Act.put, List.getElem_toArray, List.getElem_cons_succ, List.getElem_cons_zero, List.setIfInBounds_toArray, List.set_cons_zero, List.set_cons_succ]
  refine wpAnyH_done (by kernel_rfl) ?_ _
  have BB := Lib.hid (B1.out.trans (hHeld.mono B1.out.size))
  clear hHeld bd
  go_wp2
  go_ret
  exact ⟨ret_str E.out, BB.out⟩
set_option maxHeartbeats 4000000 in
set_option maxRecDepth 100000 in
theorem l6Exp_4 (d : Nat) (ih : TxtC 33 d) (n : Int) (s : ByteArray) (p q p' q' : Nat) (y z : X) (hy : toldX d y = true) (hz : toldX d z = true) (hny : enodes y.l ≤ 100) (hnz : enodes z.l ≤ 100) (w : World) (v : Value) (hv : EV w 0 (.node p q y.h y.l (.node p' q' z.h z.l .nil)) v) :
    Calls Tryz.prog 33 #[.agg #[.int .i64 4, .int .i64 n, .string s, v]] w fun e w' => e = .returned (.string (str (pairT 4 (xP y) (xP z)))) ∧ Below w.heap.size w w' := by
  obtain ⟨b, o, c, rfl, hin⟩ := hv.someRow (m := 2) (by simp) rfl
  have B := Lib.hid (alloc_below w (.cells #[.int .i64 4, .int .i64 n, .string s, .slice (some ⟨b, o, Option.none⟩) 2 c] 65))
  obtain ⟨w1, W1⟩ : ∃ w1, Hid (w1 = w.alloc (.cells #[.int .i64 4, .int .i64 n, .string s, .slice (some ⟨b, o, Option.none⟩) 2 c] 65)) := ⟨_, rfl⟩
  have R := Lib.hid (show w1.rangeAt w.heap.size 0 [.int .i64 4, .int .i64 n, .string s, .slice (some ⟨b, o, Option.none⟩) 2 c] by rw [W1.out]; exact new_range w #[.int .i64 4, .int .i64 n, .string s, .slice (some ⟨b, o, Option.none⟩) 2 c] 65)
  have B1 := Lib.hid (show Below w.heap.size w w1 by rw [W1.out]; exact B.out)
  obtain ⟨u1, u2, r1, r2, hu1, hu2⟩ := at_two hin
  have RY := Lib.hid (rangeAt_later r1 B1.out)
  have RZ := Lib.hid (rangeAt_later r2 B1.out)
  have hlen := xT_len d y hy
  have hlen2 := xT_len d z hz
  have q1 := side_len (xP y) 1
  have q2 := side_len (xP z) 2
  obtain ⟨T, HT⟩ : ∃ T, Hid (str (side (xP y) 1) = T) := ⟨_, rfl⟩
  obtain ⟨U, HU⟩ : ∃ U, Hid (str (side (xP z) 2) = U) := ⟨_, rfl⟩
  have e1 : (xP y).2.length = (xT y).length := rfl
  have e2 : (xP z).2.length = (xT z).length := rfl
  have hTs : T.size ≤ 1000000 := by rw [← HT.out, str_size]; omega
  have hUs : U.size ≤ 1000000 := by rw [← HU.out, str_size]; omega
  have CY : Hid (∀ w', Below w1.heap.size w1 w' → Calls Tryz.prog 57 #[.agg (xcells y u1).toArray, .int .i64 1] w' fun e w'' => e = .returned (.string T) ∧ Below w'.heap.size w' w'') := Lib.hid (fun w' hb => by rw [← HT.out]; exact l6At_of y (by omega) 1 (by omega) w' u1 ((hu1.later B1.out).later hb) (fun w'' h => ih y hy hny w'' u1 h))
  have CZ : Hid (∀ w', Below w1.heap.size w1 w' → Calls Tryz.prog 57 #[.agg (xcells z u2).toArray, .int .i64 2] w' fun e w'' => e = .returned (.string U) ∧ Below w'.heap.size w' w'') := Lib.hid (fun w' hb => by rw [← HU.out]; exact l6At_of z (by omega) 2 (by omega) w' u2 ((hu2.later B1.out).later hb) (fun w'' h => ih z hz hnz w'' u2 h))
  have E := Lib.hid (show (T ++ str [32, 43, 32]) ++ U = str (pairT 4 (xP y) (xP z)) by rw [← HT.out, ← HU.out, str_app, str_app]; congr 1; show _ = side (xP y) 1 ++ (32 :: ([43] ++ (32 :: side (xP z) 2))); simp)
  clear q1 q2 e1 e2
  have bd : Below w1.heap.size w1 w1.drew := (Below.refl _ w1).drew
  clear hv hin B
  go_enter Tryz.func33, Tryz.ntmps33
  go_wp2_with fail
  rw [← W1.out]
  clear W1
  refine wp_region_held_drew (S := Below w1.heap.size w1) (by kernel_rfl) bd (fun hHeld => ?_)
  refine wpAnyH_take (i := 0) (v := .pointer (some ⟨w.heap.size, 3, Option.none⟩)) rfl (by kernel_rfl) (by kernel_rfl) (by kernel_rfl) (fun _ _ _ h => h) (Or.inl ⟨by rfl, ?yc0⟩) hHeld ?_
  case yc0 => intro w hSw; go_simp
  simp only [Act.put, List.getElem_toArray, List.getElem_cons_succ, List.getElem_cons_zero, List.setIfInBounds_toArray, List.set_cons_zero, List.set_cons_succ]
  refine wpAnyH_take (i := 1) (v := .slice (some ⟨b, o, Option.none⟩) 2 c) rfl (by kernel_rfl) (by kernel_rfl) (by kernel_rfl) (fun _ _ _ h => h) (Or.inl ⟨by rfl, ?yc1⟩) hHeld ?_
  case yc1 => intro w hSw; have q := rangeAt_later R.out hSw 3 _ rfl; go_simp
  simp only [Act.put, List.getElem_toArray, List.getElem_cons_succ, List.getElem_cons_zero, List.setIfInBounds_toArray, List.set_cons_zero, List.set_cons_succ]
  refine wpAnyH_take (i := 2) (v := .pointer (some ⟨b, o, Option.none⟩)) rfl (by kernel_rfl) (by kernel_rfl) (by kernel_rfl) (fun _ _ _ h => h) (Or.inl ⟨by rfl, ?yc2⟩) hHeld ?_
  case yc2 => intro w hSw; go_simp
  simp only [Act.put, List.getElem_toArray, List.getElem_cons_succ, List.getElem_cons_zero, List.setIfInBounds_toArray, List.set_cons_zero, List.set_cons_succ]
  refine wpAnyH_take (i := 3) (v := .agg (xcells y u1).toArray) rfl (by kernel_rfl) (by kernel_rfl) (by kernel_rfl) (fun _ _ _ h => h) (yieldsIf_load_mid (by rfl) 65 _ rfl (b) (o) rfl (xcells y u1) _ (fun w h => rangeAt_later RY.out h) Tryz.underlying65 rfl sizeIE2) hHeld ?_
  simp only [Act.put, List.getElem_toArray, List.getElem_cons_succ, List.getElem_cons_zero, List.setIfInBounds_toArray, List.set_cons_zero, List.set_cons_succ]
  refine wpAnyH_take (i := 6) (v := .pointer (some ⟨w.heap.size, 3, Option.none⟩)) rfl (by kernel_rfl) (by kernel_rfl) (by kernel_rfl) (fun _ _ _ h => h) (Or.inl ⟨by rfl, ?yc6⟩) hHeld ?_
  case yc6 => intro w hSw; go_simp
  simp only [Act.put, List.getElem_toArray, List.getElem_cons_succ, List.getElem_cons_zero, List.setIfInBounds_toArray, List.set_cons_zero, List.set_cons_succ]
  refine wpAnyH_take (i := 7) (v := .slice (some ⟨b, o, Option.none⟩) 2 c) rfl (by kernel_rfl) (by kernel_rfl) (by kernel_rfl) (fun _ _ _ h => h) (Or.inl ⟨by rfl, ?yc7⟩) hHeld ?_
  case yc7 => intro w hSw; have q := rangeAt_later R.out hSw 3 _ rfl; go_simp
  simp only [Act.put, List.getElem_toArray, List.getElem_cons_succ, List.getElem_cons_zero, List.setIfInBounds_toArray, List.set_cons_zero, List.set_cons_succ]
  refine wpAnyH_take (i := 8) (v := .pointer (some ⟨b, o + 4, Option.none⟩)) rfl (by kernel_rfl) (by kernel_rfl) (by kernel_rfl) (fun _ _ _ h => h) (Or.inl ⟨by rfl, ?yc8⟩) hHeld ?_
  case yc8 => intro w hSw; go_simp
  simp only [Act.put, List.getElem_toArray, List.getElem_cons_succ, List.getElem_cons_zero, List.setIfInBounds_toArray, List.set_cons_zero, List.set_cons_succ]
  refine wpAnyH_take (i := 9) (v := .agg (xcells z u2).toArray) rfl (by kernel_rfl) (by kernel_rfl) (by kernel_rfl) (fun _ _ _ h => h) (yieldsIf_load_mid (by rfl) 65 _ rfl (b) (o + 4) rfl (xcells z u2) _ (fun w h => rangeAt_later RZ.out h) Tryz.underlying65 rfl sizeIE2) hHeld ?_
  simp only [Act.put, List.getElem_toArray, List.getElem_cons_succ, List.getElem_cons_zero, List.setIfInBounds_toArray, List.set_cons_zero, List.set_cons_succ]
  refine wpAnyH_ready (rs := [4]) (by kernel_rfl) (by simp) ?_
  refine AllReadyH.cons rfl (fun K hK => ?_) AllReadyH.nil
  rw [if_pos (by rfl)]
  simp only [List.getElem_toArray, List.getElem_cons_succ, List.getElem_cons_zero]
  go_wp2_with fail
  refine (CY.out _ hHeld).mono ?_
  rintro e w5 ⟨rfl, hb5⟩
  go_wp2_with fail
  refine hK.out _ _ (hHeld.trans (hb5.mono hHeld.size)) (fun hHeld => ?_)
  refine wpAnyH_take (i := 5) (v := .string (T ++ (⟨#[32, 43, 32]⟩ : ByteArray))) rfl (by kernel_rfl) (by kernel_rfl) (by kernel_rfl) (fun _ _ _ h => h) (Or.inl ⟨by rfl, ?yc5⟩) hHeld ?_
  case yc5 => intro w hSw; first | (go_simp; done) | (go_simp; rw [if_neg (by omega)]; done) | (go_simp; rw [if_neg (by simp only [ByteArray.size_append]; omega)]; done) | (go_simp; omega) | (go_simp; simp only [ByteArray.size_append]; omega)
  simp only [Act.put, List.getElem_toArray, List.getElem_cons_succ, List.getElem_cons_zero, List.setIfInBounds_toArray, List.set_cons_zero, List.set_cons_succ]
  refine wpAnyH_ready (rs := [10]) (by kernel_rfl) (by simp) ?_
  refine AllReadyH.cons rfl (fun K hK => ?_) AllReadyH.nil
  rw [if_pos (by rfl)]
  simp only [List.getElem_toArray, List.getElem_cons_succ, List.getElem_cons_zero]
  go_wp2_with fail
  refine (CZ.out _ hHeld).mono ?_
  rintro e w6 ⟨rfl, hb6⟩
  go_wp2_with fail
  refine hK.out _ _ (hHeld.trans (hb6.mono hHeld.size)) (fun hHeld => ?_)
  refine wpAnyH_take (i := 11) (v := .string ((T ++ (⟨#[32, 43, 32]⟩ : ByteArray)) ++ U)) rfl (by kernel_rfl) (by kernel_rfl) (by kernel_rfl) (fun _ _ _ h => h) (Or.inl ⟨by rfl, ?yc11⟩) hHeld ?_
  case yc11 => intro w hSw; first | (go_simp; done) | (go_simp; rw [if_neg (by omega)]; done) | (go_simp; rw [if_neg (by simp only [ByteArray.size_append]; omega)]; done) | (go_simp; omega) | (go_simp; simp only [ByteArray.size_append]; omega)
  simp only [Act.put, List.getElem_toArray, List.getElem_cons_succ, List.getElem_cons_zero, List.setIfInBounds_toArray, List.set_cons_zero, List.set_cons_succ]
  refine wpAnyH_take (i := 12) (v := .string ((T ++ (⟨#[32, 43, 32]⟩ : ByteArray)) ++ U)) rfl (by kernel_rfl) (by kernel_rfl) (by kernel_rfl) (fun _ _ _ h => h) (Or.inl ⟨by rfl, ?yc12⟩) hHeld ?_
  case yc12 => intro w hSw; go_simp
  simp only [Act.put, List.getElem_toArray, List.getElem_cons_succ, List.getElem_cons_zero, List.setIfInBounds_toArray, List.set_cons_zero, List.set_cons_succ]
  refine wpAnyH_done (by kernel_rfl) ?_ _
  have BB := Lib.hid (B1.out.trans (hHeld.mono B1.out.size))
  clear hHeld bd
  go_wp2
  go_ret
  exact ⟨ret_str E.out, BB.out⟩
set_option maxHeartbeats 4000000 in
set_option maxRecDepth 100000 in
theorem l6Exp_5 (d : Nat) (ih : TxtC 33 d) (n : Int) (s : ByteArray) (p q p' q' : Nat) (y z : X) (hy : toldX d y = true) (hz : toldX d z = true) (hny : enodes y.l ≤ 100) (hnz : enodes z.l ≤ 100) (w : World) (v : Value) (hv : EV w 0 (.node p q y.h y.l (.node p' q' z.h z.l .nil)) v) :
    Calls Tryz.prog 33 #[.agg #[.int .i64 5, .int .i64 n, .string s, v]] w fun e w' => e = .returned (.string (str (pairT 5 (xP y) (xP z)))) ∧ Below w.heap.size w w' := by
  obtain ⟨b, o, c, rfl, hin⟩ := hv.someRow (m := 2) (by simp) rfl
  have B := Lib.hid (alloc_below w (.cells #[.int .i64 5, .int .i64 n, .string s, .slice (some ⟨b, o, Option.none⟩) 2 c] 65))
  obtain ⟨w1, W1⟩ : ∃ w1, Hid (w1 = w.alloc (.cells #[.int .i64 5, .int .i64 n, .string s, .slice (some ⟨b, o, Option.none⟩) 2 c] 65)) := ⟨_, rfl⟩
  have R := Lib.hid (show w1.rangeAt w.heap.size 0 [.int .i64 5, .int .i64 n, .string s, .slice (some ⟨b, o, Option.none⟩) 2 c] by rw [W1.out]; exact new_range w #[.int .i64 5, .int .i64 n, .string s, .slice (some ⟨b, o, Option.none⟩) 2 c] 65)
  have B1 := Lib.hid (show Below w.heap.size w w1 by rw [W1.out]; exact B.out)
  obtain ⟨u1, u2, r1, r2, hu1, hu2⟩ := at_two hin
  have RY := Lib.hid (rangeAt_later r1 B1.out)
  have RZ := Lib.hid (rangeAt_later r2 B1.out)
  have hlen := xT_len d y hy
  have hlen2 := xT_len d z hz
  have q1 := side_len (xP y) 1
  have q2 := side_len (xP z) 2
  obtain ⟨T, HT⟩ : ∃ T, Hid (str (side (xP y) 1) = T) := ⟨_, rfl⟩
  obtain ⟨U, HU⟩ : ∃ U, Hid (str (side (xP z) 2) = U) := ⟨_, rfl⟩
  have e1 : (xP y).2.length = (xT y).length := rfl
  have e2 : (xP z).2.length = (xT z).length := rfl
  have hTs : T.size ≤ 1000000 := by rw [← HT.out, str_size]; omega
  have hUs : U.size ≤ 1000000 := by rw [← HU.out, str_size]; omega
  have CY : Hid (∀ w', Below w1.heap.size w1 w' → Calls Tryz.prog 57 #[.agg (xcells y u1).toArray, .int .i64 1] w' fun e w'' => e = .returned (.string T) ∧ Below w'.heap.size w' w'') := Lib.hid (fun w' hb => by rw [← HT.out]; exact l6At_of y (by omega) 1 (by omega) w' u1 ((hu1.later B1.out).later hb) (fun w'' h => ih y hy hny w'' u1 h))
  have CZ : Hid (∀ w', Below w1.heap.size w1 w' → Calls Tryz.prog 57 #[.agg (xcells z u2).toArray, .int .i64 2] w' fun e w'' => e = .returned (.string U) ∧ Below w'.heap.size w' w'') := Lib.hid (fun w' hb => by rw [← HU.out]; exact l6At_of z (by omega) 2 (by omega) w' u2 ((hu2.later B1.out).later hb) (fun w'' h => ih z hz hnz w'' u2 h))
  have E := Lib.hid (show (T ++ str [32, 45, 32]) ++ U = str (pairT 5 (xP y) (xP z)) by rw [← HT.out, ← HU.out, str_app, str_app]; congr 1; show _ = side (xP y) 1 ++ (32 :: ([45] ++ (32 :: side (xP z) 2))); simp)
  clear q1 q2 e1 e2
  have bd : Below w1.heap.size w1 w1.drew := (Below.refl _ w1).drew
  clear hv hin B
  go_enter Tryz.func33, Tryz.ntmps33
  go_wp2_with fail
  rw [← W1.out]
  clear W1
  refine wp_region_held_drew (S := Below w1.heap.size w1) (by kernel_rfl) bd (fun hHeld => ?_)
  refine wpAnyH_take (i := 0) (v := .pointer (some ⟨w.heap.size, 3, Option.none⟩)) rfl (by kernel_rfl) (by kernel_rfl) (by kernel_rfl) (fun _ _ _ h => h) (Or.inl ⟨by rfl, ?yc0⟩) hHeld ?_
  case yc0 => intro w hSw; go_simp
  simp only [Act.put, List.getElem_toArray, List.getElem_cons_succ, List.getElem_cons_zero, List.setIfInBounds_toArray, List.set_cons_zero, List.set_cons_succ]
  refine wpAnyH_take (i := 1) (v := .slice (some ⟨b, o, Option.none⟩) 2 c) rfl (by kernel_rfl) (by kernel_rfl) (by kernel_rfl) (fun _ _ _ h => h) (Or.inl ⟨by rfl, ?yc1⟩) hHeld ?_
  case yc1 => intro w hSw; have q := rangeAt_later R.out hSw 3 _ rfl; go_simp
  simp only [Act.put, List.getElem_toArray, List.getElem_cons_succ, List.getElem_cons_zero, List.setIfInBounds_toArray, List.set_cons_zero, List.set_cons_succ]
  refine wpAnyH_take (i := 2) (v := .pointer (some ⟨b, o, Option.none⟩)) rfl (by kernel_rfl) (by kernel_rfl) (by kernel_rfl) (fun _ _ _ h => h) (Or.inl ⟨by rfl, ?yc2⟩) hHeld ?_
  case yc2 => intro w hSw; go_simp
  simp only [Act.put, List.getElem_toArray, List.getElem_cons_succ, List.getElem_cons_zero, List.setIfInBounds_toArray, List.set_cons_zero, List.set_cons_succ]
  refine wpAnyH_take (i := 3) (v := .agg (xcells y u1).toArray) rfl (by kernel_rfl) (by kernel_rfl) (by kernel_rfl) (fun _ _ _ h => h) (yieldsIf_load_mid (by rfl) 65 _ rfl (b) (o) rfl (xcells y u1) _ (fun w h => rangeAt_later RY.out h) Tryz.underlying65 rfl sizeIE2) hHeld ?_
  simp only [Act.put, List.getElem_toArray, List.getElem_cons_succ, List.getElem_cons_zero, List.setIfInBounds_toArray, List.set_cons_zero, List.set_cons_succ]
  refine wpAnyH_take (i := 6) (v := .pointer (some ⟨w.heap.size, 3, Option.none⟩)) rfl (by kernel_rfl) (by kernel_rfl) (by kernel_rfl) (fun _ _ _ h => h) (Or.inl ⟨by rfl, ?yc6⟩) hHeld ?_
  case yc6 => intro w hSw; go_simp
  simp only [Act.put, List.getElem_toArray, List.getElem_cons_succ, List.getElem_cons_zero, List.setIfInBounds_toArray, List.set_cons_zero, List.set_cons_succ]
  refine wpAnyH_take (i := 7) (v := .slice (some ⟨b, o, Option.none⟩) 2 c) rfl (by kernel_rfl) (by kernel_rfl) (by kernel_rfl) (fun _ _ _ h => h) (Or.inl ⟨by rfl, ?yc7⟩) hHeld ?_
  case yc7 => intro w hSw; have q := rangeAt_later R.out hSw 3 _ rfl; go_simp
  simp only [Act.put, List.getElem_toArray, List.getElem_cons_succ, List.getElem_cons_zero, List.setIfInBounds_toArray, List.set_cons_zero, List.set_cons_succ]
  refine wpAnyH_take (i := 8) (v := .pointer (some ⟨b, o + 4, Option.none⟩)) rfl (by kernel_rfl) (by kernel_rfl) (by kernel_rfl) (fun _ _ _ h => h) (Or.inl ⟨by rfl, ?yc8⟩) hHeld ?_
  case yc8 => intro w hSw; go_simp
  simp only [Act.put, List.getElem_toArray, List.getElem_cons_succ, List.getElem_cons_zero, List.setIfInBounds_toArray, List.set_cons_zero, List.set_cons_succ]
  refine wpAnyH_take (i := 9) (v := .agg (xcells z u2).toArray) rfl (by kernel_rfl) (by kernel_rfl) (by kernel_rfl) (fun _ _ _ h => h) (yieldsIf_load_mid (by rfl) 65 _ rfl (b) (o + 4) rfl (xcells z u2) _ (fun w h => rangeAt_later RZ.out h) Tryz.underlying65 rfl sizeIE2) hHeld ?_
  simp only [Act.put, List.getElem_toArray, List.getElem_cons_succ, List.getElem_cons_zero, List.setIfInBounds_toArray, List.set_cons_zero, List.set_cons_succ]
  refine wpAnyH_ready (rs := [4]) (by kernel_rfl) (by simp) ?_
  refine AllReadyH.cons rfl (fun K hK => ?_) AllReadyH.nil
  rw [if_pos (by rfl)]
  simp only [List.getElem_toArray, List.getElem_cons_succ, List.getElem_cons_zero]
  go_wp2_with fail
  refine (CY.out _ hHeld).mono ?_
  rintro e w5 ⟨rfl, hb5⟩
  go_wp2_with fail
  refine hK.out _ _ (hHeld.trans (hb5.mono hHeld.size)) (fun hHeld => ?_)
  refine wpAnyH_take (i := 5) (v := .string (T ++ (⟨#[32, 45, 32]⟩ : ByteArray))) rfl (by kernel_rfl) (by kernel_rfl) (by kernel_rfl) (fun _ _ _ h => h) (Or.inl ⟨by rfl, ?yc5⟩) hHeld ?_
  case yc5 => intro w hSw; first | (go_simp; done) | (go_simp; rw [if_neg (by omega)]; done) | (go_simp; rw [if_neg (by simp only [ByteArray.size_append]; omega)]; done) | (go_simp; omega) | (go_simp; simp only [ByteArray.size_append]; omega)
  simp only [Act.put, List.getElem_toArray, List.getElem_cons_succ, List.getElem_cons_zero, List.setIfInBounds_toArray, List.set_cons_zero, List.set_cons_succ]
  refine wpAnyH_ready (rs := [10]) (by kernel_rfl) (by simp) ?_
  refine AllReadyH.cons rfl (fun K hK => ?_) AllReadyH.nil
  rw [if_pos (by rfl)]
  simp only [List.getElem_toArray, List.getElem_cons_succ, List.getElem_cons_zero]
  go_wp2_with fail
  refine (CZ.out _ hHeld).mono ?_
  rintro e w6 ⟨rfl, hb6⟩
  go_wp2_with fail
  refine hK.out _ _ (hHeld.trans (hb6.mono hHeld.size)) (fun hHeld => ?_)
  refine wpAnyH_take (i := 11) (v := .string ((T ++ (⟨#[32, 45, 32]⟩ : ByteArray)) ++ U)) rfl (by kernel_rfl) (by kernel_rfl) (by kernel_rfl) (fun _ _ _ h => h) (Or.inl ⟨by rfl, ?yc11⟩) hHeld ?_
  case yc11 => intro w hSw; first | (go_simp; done) | (go_simp; rw [if_neg (by omega)]; done) | (go_simp; rw [if_neg (by simp only [ByteArray.size_append]; omega)]; done) | (go_simp; omega) | (go_simp; simp only [ByteArray.size_append]; omega)
  simp only [Act.put, List.getElem_toArray, List.getElem_cons_succ, List.getElem_cons_zero, List.setIfInBounds_toArray, List.set_cons_zero, List.set_cons_succ]
  refine wpAnyH_take (i := 12) (v := .string ((T ++ (⟨#[32, 45, 32]⟩ : ByteArray)) ++ U)) rfl (by kernel_rfl) (by kernel_rfl) (by kernel_rfl) (fun _ _ _ h => h) (Or.inl ⟨by rfl, ?yc12⟩) hHeld ?_
  case yc12 => intro w hSw; go_simp
  simp only [Act.put, List.getElem_toArray, List.getElem_cons_succ, List.getElem_cons_zero, List.setIfInBounds_toArray, List.set_cons_zero, List.set_cons_succ]
  refine wpAnyH_done (by kernel_rfl) ?_ _
  have BB := Lib.hid (B1.out.trans (hHeld.mono B1.out.size))
  clear hHeld bd
  go_wp2
  go_ret
  exact ⟨ret_str E.out, BB.out⟩
set_option maxHeartbeats 4000000 in
set_option maxRecDepth 100000 in
theorem l6Exp_6 (d : Nat) (ih : TxtC 33 d) (n : Int) (s : ByteArray) (p q p' q' : Nat) (y z : X) (hy : toldX d y = true) (hz : toldX d z = true) (hny : enodes y.l ≤ 100) (hnz : enodes z.l ≤ 100) (w : World) (v : Value) (hv : EV w 0 (.node p q y.h y.l (.node p' q' z.h z.l .nil)) v) :
    Calls Tryz.prog 33 #[.agg #[.int .i64 6, .int .i64 n, .string s, v]] w fun e w' => e = .returned (.string (str (pairT 6 (xP y) (xP z)))) ∧ Below w.heap.size w w' := by
  obtain ⟨b, o, c, rfl, hin⟩ := hv.someRow (m := 2) (by simp) rfl
  have B := Lib.hid (alloc_below w (.cells #[.int .i64 6, .int .i64 n, .string s, .slice (some ⟨b, o, Option.none⟩) 2 c] 65))
  obtain ⟨w1, W1⟩ : ∃ w1, Hid (w1 = w.alloc (.cells #[.int .i64 6, .int .i64 n, .string s, .slice (some ⟨b, o, Option.none⟩) 2 c] 65)) := ⟨_, rfl⟩
  have R := Lib.hid (show w1.rangeAt w.heap.size 0 [.int .i64 6, .int .i64 n, .string s, .slice (some ⟨b, o, Option.none⟩) 2 c] by rw [W1.out]; exact new_range w #[.int .i64 6, .int .i64 n, .string s, .slice (some ⟨b, o, Option.none⟩) 2 c] 65)
  have B1 := Lib.hid (show Below w.heap.size w w1 by rw [W1.out]; exact B.out)
  obtain ⟨u1, u2, r1, r2, hu1, hu2⟩ := at_two hin
  have RY := Lib.hid (rangeAt_later r1 B1.out)
  have RZ := Lib.hid (rangeAt_later r2 B1.out)
  have hlen := xT_len d y hy
  have hlen2 := xT_len d z hz
  have q1 := side_len (xP y) 2
  have q2 := side_len (xP z) 3
  obtain ⟨T, HT⟩ : ∃ T, Hid (str (side (xP y) 2) = T) := ⟨_, rfl⟩
  obtain ⟨U, HU⟩ : ∃ U, Hid (str (side (xP z) 3) = U) := ⟨_, rfl⟩
  have e1 : (xP y).2.length = (xT y).length := rfl
  have e2 : (xP z).2.length = (xT z).length := rfl
  have hTs : T.size ≤ 1000000 := by rw [← HT.out, str_size]; omega
  have hUs : U.size ≤ 1000000 := by rw [← HU.out, str_size]; omega
  have CY : Hid (∀ w', Below w1.heap.size w1 w' → Calls Tryz.prog 57 #[.agg (xcells y u1).toArray, .int .i64 2] w' fun e w'' => e = .returned (.string T) ∧ Below w'.heap.size w' w'') := Lib.hid (fun w' hb => by rw [← HT.out]; exact l6At_of y (by omega) 2 (by omega) w' u1 ((hu1.later B1.out).later hb) (fun w'' h => ih y hy hny w'' u1 h))
  have CZ : Hid (∀ w', Below w1.heap.size w1 w' → Calls Tryz.prog 57 #[.agg (xcells z u2).toArray, .int .i64 3] w' fun e w'' => e = .returned (.string U) ∧ Below w'.heap.size w' w'') := Lib.hid (fun w' hb => by rw [← HU.out]; exact l6At_of z (by omega) 3 (by omega) w' u2 ((hu2.later B1.out).later hb) (fun w'' h => ih z hz hnz w'' u2 h))
  have E := Lib.hid (show (T ++ str [32, 42, 32]) ++ U = str (pairT 6 (xP y) (xP z)) by rw [← HT.out, ← HU.out, str_app, str_app]; congr 1; show _ = side (xP y) 2 ++ (32 :: ([42] ++ (32 :: side (xP z) 3))); simp)
  clear q1 q2 e1 e2
  have bd : Below w1.heap.size w1 w1.drew := (Below.refl _ w1).drew
  clear hv hin B
  go_enter Tryz.func33, Tryz.ntmps33
  go_wp2_with fail
  rw [← W1.out]
  clear W1
  refine wp_region_held_drew (S := Below w1.heap.size w1) (by kernel_rfl) bd (fun hHeld => ?_)
  refine wpAnyH_take (i := 0) (v := .pointer (some ⟨w.heap.size, 3, Option.none⟩)) rfl (by kernel_rfl) (by kernel_rfl) (by kernel_rfl) (fun _ _ _ h => h) (Or.inl ⟨by rfl, ?yc0⟩) hHeld ?_
  case yc0 => intro w hSw; go_simp
  simp only [Act.put, List.getElem_toArray, List.getElem_cons_succ, List.getElem_cons_zero, List.setIfInBounds_toArray, List.set_cons_zero, List.set_cons_succ]
  refine wpAnyH_take (i := 1) (v := .slice (some ⟨b, o, Option.none⟩) 2 c) rfl (by kernel_rfl) (by kernel_rfl) (by kernel_rfl) (fun _ _ _ h => h) (Or.inl ⟨by rfl, ?yc1⟩) hHeld ?_
  case yc1 => intro w hSw; have q := rangeAt_later R.out hSw 3 _ rfl; go_simp
  simp only [Act.put, List.getElem_toArray, List.getElem_cons_succ, List.getElem_cons_zero, List.setIfInBounds_toArray, List.set_cons_zero, List.set_cons_succ]
  refine wpAnyH_take (i := 2) (v := .pointer (some ⟨b, o, Option.none⟩)) rfl (by kernel_rfl) (by kernel_rfl) (by kernel_rfl) (fun _ _ _ h => h) (Or.inl ⟨by rfl, ?yc2⟩) hHeld ?_
  case yc2 => intro w hSw; go_simp
  simp only [Act.put, List.getElem_toArray, List.getElem_cons_succ, List.getElem_cons_zero, List.setIfInBounds_toArray, List.set_cons_zero, List.set_cons_succ]
  refine wpAnyH_take (i := 3) (v := .agg (xcells y u1).toArray) rfl (by kernel_rfl) (by kernel_rfl) (by kernel_rfl) (fun _ _ _ h => h) (yieldsIf_load_mid (by rfl) 65 _ rfl (b) (o) rfl (xcells y u1) _ (fun w h => rangeAt_later RY.out h) Tryz.underlying65 rfl sizeIE2) hHeld ?_
  simp only [Act.put, List.getElem_toArray, List.getElem_cons_succ, List.getElem_cons_zero, List.setIfInBounds_toArray, List.set_cons_zero, List.set_cons_succ]
  refine wpAnyH_take (i := 6) (v := .pointer (some ⟨w.heap.size, 3, Option.none⟩)) rfl (by kernel_rfl) (by kernel_rfl) (by kernel_rfl) (fun _ _ _ h => h) (Or.inl ⟨by rfl, ?yc6⟩) hHeld ?_
  case yc6 => intro w hSw; go_simp
  simp only [Act.put, List.getElem_toArray, List.getElem_cons_succ, List.getElem_cons_zero, List.setIfInBounds_toArray, List.set_cons_zero, List.set_cons_succ]
  refine wpAnyH_take (i := 7) (v := .slice (some ⟨b, o, Option.none⟩) 2 c) rfl (by kernel_rfl) (by kernel_rfl) (by kernel_rfl) (fun _ _ _ h => h) (Or.inl ⟨by rfl, ?yc7⟩) hHeld ?_
  case yc7 => intro w hSw; have q := rangeAt_later R.out hSw 3 _ rfl; go_simp
  simp only [Act.put, List.getElem_toArray, List.getElem_cons_succ, List.getElem_cons_zero, List.setIfInBounds_toArray, List.set_cons_zero, List.set_cons_succ]
  refine wpAnyH_take (i := 8) (v := .pointer (some ⟨b, o + 4, Option.none⟩)) rfl (by kernel_rfl) (by kernel_rfl) (by kernel_rfl) (fun _ _ _ h => h) (Or.inl ⟨by rfl, ?yc8⟩) hHeld ?_
  case yc8 => intro w hSw; go_simp
  simp only [Act.put, List.getElem_toArray, List.getElem_cons_succ, List.getElem_cons_zero, List.setIfInBounds_toArray, List.set_cons_zero, List.set_cons_succ]
  refine wpAnyH_take (i := 9) (v := .agg (xcells z u2).toArray) rfl (by kernel_rfl) (by kernel_rfl) (by kernel_rfl) (fun _ _ _ h => h) (yieldsIf_load_mid (by rfl) 65 _ rfl (b) (o + 4) rfl (xcells z u2) _ (fun w h => rangeAt_later RZ.out h) Tryz.underlying65 rfl sizeIE2) hHeld ?_
  simp only [Act.put, List.getElem_toArray, List.getElem_cons_succ, List.getElem_cons_zero, List.setIfInBounds_toArray, List.set_cons_zero, List.set_cons_succ]
  refine wpAnyH_ready (rs := [4]) (by kernel_rfl) (by simp) ?_
  refine AllReadyH.cons rfl (fun K hK => ?_) AllReadyH.nil
  rw [if_pos (by rfl)]
  simp only [List.getElem_toArray, List.getElem_cons_succ, List.getElem_cons_zero]
  go_wp2_with fail
  refine (CY.out _ hHeld).mono ?_
  rintro e w5 ⟨rfl, hb5⟩
  go_wp2_with fail
  refine hK.out _ _ (hHeld.trans (hb5.mono hHeld.size)) (fun hHeld => ?_)
  refine wpAnyH_take (i := 5) (v := .string (T ++ (⟨#[32, 42, 32]⟩ : ByteArray))) rfl (by kernel_rfl) (by kernel_rfl) (by kernel_rfl) (fun _ _ _ h => h) (Or.inl ⟨by rfl, ?yc5⟩) hHeld ?_
  case yc5 => intro w hSw; first | (go_simp; done) | (go_simp; rw [if_neg (by omega)]; done) | (go_simp; rw [if_neg (by simp only [ByteArray.size_append]; omega)]; done) | (go_simp; omega) | (go_simp; simp only [ByteArray.size_append]; omega)
  simp only [Act.put, List.getElem_toArray, List.getElem_cons_succ, List.getElem_cons_zero, List.setIfInBounds_toArray, List.set_cons_zero, List.set_cons_succ]
  refine wpAnyH_ready (rs := [10]) (by kernel_rfl) (by simp) ?_
  refine AllReadyH.cons rfl (fun K hK => ?_) AllReadyH.nil
  rw [if_pos (by rfl)]
  simp only [List.getElem_toArray, List.getElem_cons_succ, List.getElem_cons_zero]
  go_wp2_with fail
  refine (CZ.out _ hHeld).mono ?_
  rintro e w6 ⟨rfl, hb6⟩
  go_wp2_with fail
  refine hK.out _ _ (hHeld.trans (hb6.mono hHeld.size)) (fun hHeld => ?_)
  refine wpAnyH_take (i := 11) (v := .string ((T ++ (⟨#[32, 42, 32]⟩ : ByteArray)) ++ U)) rfl (by kernel_rfl) (by kernel_rfl) (by kernel_rfl) (fun _ _ _ h => h) (Or.inl ⟨by rfl, ?yc11⟩) hHeld ?_
  case yc11 => intro w hSw; first | (go_simp; done) | (go_simp; rw [if_neg (by omega)]; done) | (go_simp; rw [if_neg (by simp only [ByteArray.size_append]; omega)]; done) | (go_simp; omega) | (go_simp; simp only [ByteArray.size_append]; omega)
  simp only [Act.put, List.getElem_toArray, List.getElem_cons_succ, List.getElem_cons_zero, List.setIfInBounds_toArray, List.set_cons_zero, List.set_cons_succ]
  refine wpAnyH_take (i := 12) (v := .string ((T ++ (⟨#[32, 42, 32]⟩ : ByteArray)) ++ U)) rfl (by kernel_rfl) (by kernel_rfl) (by kernel_rfl) (fun _ _ _ h => h) (Or.inl ⟨by rfl, ?yc12⟩) hHeld ?_
  case yc12 => intro w hSw; go_simp
  simp only [Act.put, List.getElem_toArray, List.getElem_cons_succ, List.getElem_cons_zero, List.setIfInBounds_toArray, List.set_cons_zero, List.set_cons_succ]
  refine wpAnyH_done (by kernel_rfl) ?_ _
  have BB := Lib.hid (B1.out.trans (hHeld.mono B1.out.size))
  clear hHeld bd
  go_wp2
  go_ret
  exact ⟨ret_str E.out, BB.out⟩
set_option maxHeartbeats 4000000 in
set_option maxRecDepth 100000 in
theorem l6Exp_7 (d : Nat) (ih : TxtC 33 d) (n : Int) (s : ByteArray) (p q p' q' : Nat) (y z : X) (hy : toldX d y = true) (hz : toldX d z = true) (hny : enodes y.l ≤ 100) (hnz : enodes z.l ≤ 100) (w : World) (v : Value) (hv : EV w 0 (.node p q y.h y.l (.node p' q' z.h z.l .nil)) v) :
    Calls Tryz.prog 33 #[.agg #[.int .i64 7, .int .i64 n, .string s, v]] w fun e w' => e = .returned (.string (str (pairT 7 (xP y) (xP z)))) ∧ Below w.heap.size w w' := by
  obtain ⟨b, o, c, rfl, hin⟩ := hv.someRow (m := 2) (by simp) rfl
  have B := Lib.hid (alloc_below w (.cells #[.int .i64 7, .int .i64 n, .string s, .slice (some ⟨b, o, Option.none⟩) 2 c] 65))
  obtain ⟨w1, W1⟩ : ∃ w1, Hid (w1 = w.alloc (.cells #[.int .i64 7, .int .i64 n, .string s, .slice (some ⟨b, o, Option.none⟩) 2 c] 65)) := ⟨_, rfl⟩
  have R := Lib.hid (show w1.rangeAt w.heap.size 0 [.int .i64 7, .int .i64 n, .string s, .slice (some ⟨b, o, Option.none⟩) 2 c] by rw [W1.out]; exact new_range w #[.int .i64 7, .int .i64 n, .string s, .slice (some ⟨b, o, Option.none⟩) 2 c] 65)
  have B1 := Lib.hid (show Below w.heap.size w w1 by rw [W1.out]; exact B.out)
  obtain ⟨u1, u2, r1, r2, hu1, hu2⟩ := at_two hin
  have RY := Lib.hid (rangeAt_later r1 B1.out)
  have RZ := Lib.hid (rangeAt_later r2 B1.out)
  have hlen := xT_len d y hy
  have hlen2 := xT_len d z hz
  obtain ⟨T, HT⟩ : ∃ T, Hid (str (xT y) = T) := ⟨_, rfl⟩
  obtain ⟨U, HU⟩ : ∃ U, Hid (str (xT z) = U) := ⟨_, rfl⟩
  have hTs : T.size ≤ 1000000 := by rw [← HT.out, str_size]; omega
  have hUs : U.size ≤ 1000000 := by rw [← HU.out, str_size]; omega
  have CY : Hid (∀ w', Below w1.heap.size w1 w' → Calls Tryz.prog 33 #[.agg (xcells y u1).toArray] w' fun e w'' => e = .returned (.string T) ∧ Below w'.heap.size w' w'') := Lib.hid (fun w' hb => by rw [← HT.out]; exact ih y hy hny w' u1 ((hu1.later B1.out).later hb))
  have CZ : Hid (∀ w', Below w1.heap.size w1 w' → Calls Tryz.prog 33 #[.agg (xcells z u2).toArray] w' fun e w'' => e = .returned (.string U) ∧ Below w'.heap.size w' w'') := Lib.hid (fun w' hb => by rw [← HU.out]; exact ih z hz hnz w' u2 ((hu2.later B1.out).later hb))
  have E := Lib.hid (show (((str [109, 105, 110, 40] ++ T) ++ str [44, 32]) ++ U) ++ str [41] = str (pairT 7 (xP y) (xP z)) by rw [← HT.out, ← HU.out, str_app, str_app, str_app, str_app]; congr 1; show _ = [109, 105, 110] ++ (40 :: (xT y ++ ([44, 32] ++ (xT z ++ [41])))); simp)
  have bd : Below w1.heap.size w1 w1.drew := (Below.refl _ w1).drew
  clear hv hin B
  go_enter Tryz.func33, Tryz.ntmps33
  go_wp2_with fail
  rw [← W1.out]
  clear W1
  refine wp_region_held_drew (S := Below w1.heap.size w1) (by kernel_rfl) bd (fun hHeld => ?_)
  refine wpAnyH_take (i := 0) (v := .pointer (some ⟨w.heap.size, 3, Option.none⟩)) rfl (by kernel_rfl) (by kernel_rfl) (by kernel_rfl) (fun _ _ _ h => h) (Or.inl ⟨by rfl, ?yc0⟩) hHeld ?_
  case yc0 => intro w hSw; go_simp
  simp only [Act.put, List.getElem_toArray, List.getElem_cons_succ, List.getElem_cons_zero, List.setIfInBounds_toArray, List.set_cons_zero, List.set_cons_succ]
  refine wpAnyH_take (i := 1) (v := .slice (some ⟨b, o, Option.none⟩) 2 c) rfl (by kernel_rfl) (by kernel_rfl) (by kernel_rfl) (fun _ _ _ h => h) (Or.inl ⟨by rfl, ?yc1⟩) hHeld ?_
  case yc1 => intro w hSw; have q := rangeAt_later R.out hSw 3 _ rfl; go_simp
  simp only [Act.put, List.getElem_toArray, List.getElem_cons_succ, List.getElem_cons_zero, List.setIfInBounds_toArray, List.set_cons_zero, List.set_cons_succ]
  refine wpAnyH_take (i := 2) (v := .pointer (some ⟨b, o, Option.none⟩)) rfl (by kernel_rfl) (by kernel_rfl) (by kernel_rfl) (fun _ _ _ h => h) (Or.inl ⟨by rfl, ?yc2⟩) hHeld ?_
  case yc2 => intro w hSw; go_simp
  simp only [Act.put, List.getElem_toArray, List.getElem_cons_succ, List.getElem_cons_zero, List.setIfInBounds_toArray, List.set_cons_zero, List.set_cons_succ]
  refine wpAnyH_take (i := 3) (v := .agg (xcells y u1).toArray) rfl (by kernel_rfl) (by kernel_rfl) (by kernel_rfl) (fun _ _ _ h => h) (yieldsIf_load_mid (by rfl) 65 _ rfl (b) (o) rfl (xcells y u1) _ (fun w h => rangeAt_later RY.out h) Tryz.underlying65 rfl sizeIE2) hHeld ?_
  simp only [Act.put, List.getElem_toArray, List.getElem_cons_succ, List.getElem_cons_zero, List.setIfInBounds_toArray, List.set_cons_zero, List.set_cons_succ]
  refine wpAnyH_take (i := 7) (v := .pointer (some ⟨w.heap.size, 3, Option.none⟩)) rfl (by kernel_rfl) (by kernel_rfl) (by kernel_rfl) (fun _ _ _ h => h) (Or.inl ⟨by rfl, ?yc7⟩) hHeld ?_
  case yc7 => intro w hSw; go_simp
  simp only [Act.put, List.getElem_toArray, List.getElem_cons_succ, List.getElem_cons_zero, List.setIfInBounds_toArray, List.set_cons_zero, List.set_cons_succ]
  refine wpAnyH_take (i := 8) (v := .slice (some ⟨b, o, Option.none⟩) 2 c) rfl (by kernel_rfl) (by kernel_rfl) (by kernel_rfl) (fun _ _ _ h => h) (Or.inl ⟨by rfl, ?yc8⟩) hHeld ?_
  case yc8 => intro w hSw; have q := rangeAt_later R.out hSw 3 _ rfl; go_simp
  simp only [Act.put, List.getElem_toArray, List.getElem_cons_succ, List.getElem_cons_zero, List.setIfInBounds_toArray, List.set_cons_zero, List.set_cons_succ]
  refine wpAnyH_take (i := 9) (v := .pointer (some ⟨b, o + 4, Option.none⟩)) rfl (by kernel_rfl) (by kernel_rfl) (by kernel_rfl) (fun _ _ _ h => h) (Or.inl ⟨by rfl, ?yc9⟩) hHeld ?_
  case yc9 => intro w hSw; go_simp
  simp only [Act.put, List.getElem_toArray, List.getElem_cons_succ, List.getElem_cons_zero, List.setIfInBounds_toArray, List.set_cons_zero, List.set_cons_succ]
  refine wpAnyH_take (i := 10) (v := .agg (xcells z u2).toArray) rfl (by kernel_rfl) (by kernel_rfl) (by kernel_rfl) (fun _ _ _ h => h) (yieldsIf_load_mid (by rfl) 65 _ rfl (b) (o + 4) rfl (xcells z u2) _ (fun w h => rangeAt_later RZ.out h) Tryz.underlying65 rfl sizeIE2) hHeld ?_
  simp only [Act.put, List.getElem_toArray, List.getElem_cons_succ, List.getElem_cons_zero, List.setIfInBounds_toArray, List.set_cons_zero, List.set_cons_succ]
  refine wpAnyH_ready (rs := [4]) (by kernel_rfl) (by simp) ?_
  refine AllReadyH.cons rfl (fun K hK => ?_) AllReadyH.nil
  rw [if_pos (by rfl)]
  simp only [List.getElem_toArray, List.getElem_cons_succ, List.getElem_cons_zero]
  go_wp2_with fail
  refine (CY.out _ hHeld).mono ?_
  rintro e w5 ⟨rfl, hb5⟩
  go_wp2_with fail
  refine hK.out _ _ (hHeld.trans (hb5.mono hHeld.size)) (fun hHeld => ?_)
  refine wpAnyH_take (i := 5) (v := .string ((⟨#[109, 105, 110, 40]⟩ : ByteArray) ++ T)) rfl (by kernel_rfl) (by kernel_rfl) (by kernel_rfl) (fun _ _ _ h => h) (Or.inl ⟨by rfl, ?yc5⟩) hHeld ?_
  case yc5 => intro w hSw; first | (go_simp; done) | (go_simp; rw [if_neg (by omega)]; done) | (go_simp; rw [if_neg (by simp only [ByteArray.size_append]; omega)]; done) | (go_simp; omega) | (go_simp; simp only [ByteArray.size_append]; omega)
  simp only [Act.put, List.getElem_toArray, List.getElem_cons_succ, List.getElem_cons_zero, List.setIfInBounds_toArray, List.set_cons_zero, List.set_cons_succ]
  refine wpAnyH_take (i := 6) (v := .string (((⟨#[109, 105, 110, 40]⟩ : ByteArray) ++ T) ++ (⟨#[44, 32]⟩ : ByteArray))) rfl (by kernel_rfl) (by kernel_rfl) (by kernel_rfl) (fun _ _ _ h => h) (Or.inl ⟨by rfl, ?yc6⟩) hHeld ?_
  case yc6 => intro w hSw; first | (go_simp; done) | (go_simp; rw [if_neg (by omega)]; done) | (go_simp; rw [if_neg (by simp only [ByteArray.size_append]; omega)]; done) | (go_simp; omega) | (go_simp; simp only [ByteArray.size_append]; omega)
  simp only [Act.put, List.getElem_toArray, List.getElem_cons_succ, List.getElem_cons_zero, List.setIfInBounds_toArray, List.set_cons_zero, List.set_cons_succ]
  refine wpAnyH_ready (rs := [11]) (by kernel_rfl) (by simp) ?_
  refine AllReadyH.cons rfl (fun K hK => ?_) AllReadyH.nil
  rw [if_pos (by rfl)]
  simp only [List.getElem_toArray, List.getElem_cons_succ, List.getElem_cons_zero]
  go_wp2_with fail
  refine (CZ.out _ hHeld).mono ?_
  rintro e w6 ⟨rfl, hb6⟩
  go_wp2_with fail
  refine hK.out _ _ (hHeld.trans (hb6.mono hHeld.size)) (fun hHeld => ?_)
  refine wpAnyH_take (i := 12) (v := .string ((((⟨#[109, 105, 110, 40]⟩ : ByteArray) ++ T) ++ (⟨#[44, 32]⟩ : ByteArray)) ++ U)) rfl (by kernel_rfl) (by kernel_rfl) (by kernel_rfl) (fun _ _ _ h => h) (Or.inl ⟨by rfl, ?yc12⟩) hHeld ?_
  case yc12 => intro w hSw; first | (go_simp; done) | (go_simp; rw [if_neg (by omega)]; done) | (go_simp; rw [if_neg (by simp only [ByteArray.size_append]; omega)]; done) | (go_simp; omega) | (go_simp; simp only [ByteArray.size_append]; omega)
  simp only [Act.put, List.getElem_toArray, List.getElem_cons_succ, List.getElem_cons_zero, List.setIfInBounds_toArray, List.set_cons_zero, List.set_cons_succ]
  refine wpAnyH_take (i := 13) (v := .string (((((⟨#[109, 105, 110, 40]⟩ : ByteArray) ++ T) ++ (⟨#[44, 32]⟩ : ByteArray)) ++ U) ++ (⟨#[41]⟩ : ByteArray))) rfl (by kernel_rfl) (by kernel_rfl) (by kernel_rfl) (fun _ _ _ h => h) (Or.inl ⟨by rfl, ?yc13⟩) hHeld ?_
  case yc13 => intro w hSw; first | (go_simp; done) | (go_simp; rw [if_neg (by omega)]; done) | (go_simp; rw [if_neg (by simp only [ByteArray.size_append]; omega)]; done) | (go_simp; omega) | (go_simp; simp only [ByteArray.size_append]; omega)
  simp only [Act.put, List.getElem_toArray, List.getElem_cons_succ, List.getElem_cons_zero, List.setIfInBounds_toArray, List.set_cons_zero, List.set_cons_succ]
  refine wpAnyH_take (i := 14) (v := .string (((((⟨#[109, 105, 110, 40]⟩ : ByteArray) ++ T) ++ (⟨#[44, 32]⟩ : ByteArray)) ++ U) ++ (⟨#[41]⟩ : ByteArray))) rfl (by kernel_rfl) (by kernel_rfl) (by kernel_rfl) (fun _ _ _ h => h) (Or.inl ⟨by rfl, ?yc14⟩) hHeld ?_
  case yc14 => intro w hSw; go_simp
  simp only [Act.put, List.getElem_toArray, List.getElem_cons_succ, List.getElem_cons_zero, List.setIfInBounds_toArray, List.set_cons_zero, List.set_cons_succ]
  refine wpAnyH_done (by kernel_rfl) ?_ _
  have BB := Lib.hid (B1.out.trans (hHeld.mono B1.out.size))
  clear hHeld bd
  go_wp2
  go_ret
  exact ⟨ret_str E.out, BB.out⟩
set_option maxHeartbeats 4000000 in
set_option maxRecDepth 100000 in
theorem l6Exp_8 (d : Nat) (ih : TxtC 33 d) (n : Int) (s : ByteArray) (p q p' q' : Nat) (y z : X) (hy : toldX d y = true) (hz : toldX d z = true) (hny : enodes y.l ≤ 100) (hnz : enodes z.l ≤ 100) (w : World) (v : Value) (hv : EV w 0 (.node p q y.h y.l (.node p' q' z.h z.l .nil)) v) :
    Calls Tryz.prog 33 #[.agg #[.int .i64 8, .int .i64 n, .string s, v]] w fun e w' => e = .returned (.string (str (pairT 8 (xP y) (xP z)))) ∧ Below w.heap.size w w' := by
  obtain ⟨b, o, c, rfl, hin⟩ := hv.someRow (m := 2) (by simp) rfl
  have B := Lib.hid (alloc_below w (.cells #[.int .i64 8, .int .i64 n, .string s, .slice (some ⟨b, o, Option.none⟩) 2 c] 65))
  obtain ⟨w1, W1⟩ : ∃ w1, Hid (w1 = w.alloc (.cells #[.int .i64 8, .int .i64 n, .string s, .slice (some ⟨b, o, Option.none⟩) 2 c] 65)) := ⟨_, rfl⟩
  have R := Lib.hid (show w1.rangeAt w.heap.size 0 [.int .i64 8, .int .i64 n, .string s, .slice (some ⟨b, o, Option.none⟩) 2 c] by rw [W1.out]; exact new_range w #[.int .i64 8, .int .i64 n, .string s, .slice (some ⟨b, o, Option.none⟩) 2 c] 65)
  have B1 := Lib.hid (show Below w.heap.size w w1 by rw [W1.out]; exact B.out)
  obtain ⟨u1, u2, r1, r2, hu1, hu2⟩ := at_two hin
  have RY := Lib.hid (rangeAt_later r1 B1.out)
  have RZ := Lib.hid (rangeAt_later r2 B1.out)
  have hlen := xT_len d y hy
  have hlen2 := xT_len d z hz
  obtain ⟨T, HT⟩ : ∃ T, Hid (str (xT y) = T) := ⟨_, rfl⟩
  obtain ⟨U, HU⟩ : ∃ U, Hid (str (xT z) = U) := ⟨_, rfl⟩
  have hTs : T.size ≤ 1000000 := by rw [← HT.out, str_size]; omega
  have hUs : U.size ≤ 1000000 := by rw [← HU.out, str_size]; omega
  have CY : Hid (∀ w', Below w1.heap.size w1 w' → Calls Tryz.prog 33 #[.agg (xcells y u1).toArray] w' fun e w'' => e = .returned (.string T) ∧ Below w'.heap.size w' w'') := Lib.hid (fun w' hb => by rw [← HT.out]; exact ih y hy hny w' u1 ((hu1.later B1.out).later hb))
  have CZ : Hid (∀ w', Below w1.heap.size w1 w' → Calls Tryz.prog 33 #[.agg (xcells z u2).toArray] w' fun e w'' => e = .returned (.string U) ∧ Below w'.heap.size w' w'') := Lib.hid (fun w' hb => by rw [← HU.out]; exact ih z hz hnz w' u2 ((hu2.later B1.out).later hb))
  have E := Lib.hid (show (((str [109, 97, 120, 40] ++ T) ++ str [44, 32]) ++ U) ++ str [41] = str (pairT 8 (xP y) (xP z)) by rw [← HT.out, ← HU.out, str_app, str_app, str_app, str_app]; congr 1; show _ = [109, 97, 120] ++ (40 :: (xT y ++ ([44, 32] ++ (xT z ++ [41])))); simp)
  have bd : Below w1.heap.size w1 w1.drew := (Below.refl _ w1).drew
  clear hv hin B
  go_enter Tryz.func33, Tryz.ntmps33
  go_wp2_with fail
  rw [← W1.out]
  clear W1
  refine wp_region_held_drew (S := Below w1.heap.size w1) (by kernel_rfl) bd (fun hHeld => ?_)
  refine wpAnyH_take (i := 0) (v := .pointer (some ⟨w.heap.size, 3, Option.none⟩)) rfl (by kernel_rfl) (by kernel_rfl) (by kernel_rfl) (fun _ _ _ h => h) (Or.inl ⟨by rfl, ?yc0⟩) hHeld ?_
  case yc0 => intro w hSw; go_simp
  simp only [Act.put, List.getElem_toArray, List.getElem_cons_succ, List.getElem_cons_zero, List.setIfInBounds_toArray, List.set_cons_zero, List.set_cons_succ]
  refine wpAnyH_take (i := 1) (v := .slice (some ⟨b, o, Option.none⟩) 2 c) rfl (by kernel_rfl) (by kernel_rfl) (by kernel_rfl) (fun _ _ _ h => h) (Or.inl ⟨by rfl, ?yc1⟩) hHeld ?_
  case yc1 => intro w hSw; have q := rangeAt_later R.out hSw 3 _ rfl; go_simp
  simp only [Act.put, List.getElem_toArray, List.getElem_cons_succ, List.getElem_cons_zero, List.setIfInBounds_toArray, List.set_cons_zero, List.set_cons_succ]
  refine wpAnyH_take (i := 2) (v := .pointer (some ⟨b, o, Option.none⟩)) rfl (by kernel_rfl) (by kernel_rfl) (by kernel_rfl) (fun _ _ _ h => h) (Or.inl ⟨by rfl, ?yc2⟩) hHeld ?_
  case yc2 => intro w hSw; go_simp
  simp only [Act.put, List.getElem_toArray, List.getElem_cons_succ, List.getElem_cons_zero, List.setIfInBounds_toArray, List.set_cons_zero, List.set_cons_succ]
  refine wpAnyH_take (i := 3) (v := .agg (xcells y u1).toArray) rfl (by kernel_rfl) (by kernel_rfl) (by kernel_rfl) (fun _ _ _ h => h) (yieldsIf_load_mid (by rfl) 65 _ rfl (b) (o) rfl (xcells y u1) _ (fun w h => rangeAt_later RY.out h) Tryz.underlying65 rfl sizeIE2) hHeld ?_
  simp only [Act.put, List.getElem_toArray, List.getElem_cons_succ, List.getElem_cons_zero, List.setIfInBounds_toArray, List.set_cons_zero, List.set_cons_succ]
  refine wpAnyH_take (i := 7) (v := .pointer (some ⟨w.heap.size, 3, Option.none⟩)) rfl (by kernel_rfl) (by kernel_rfl) (by kernel_rfl) (fun _ _ _ h => h) (Or.inl ⟨by rfl, ?yc7⟩) hHeld ?_
  case yc7 => intro w hSw; go_simp
  simp only [Act.put, List.getElem_toArray, List.getElem_cons_succ, List.getElem_cons_zero, List.setIfInBounds_toArray, List.set_cons_zero, List.set_cons_succ]
  refine wpAnyH_take (i := 8) (v := .slice (some ⟨b, o, Option.none⟩) 2 c) rfl (by kernel_rfl) (by kernel_rfl) (by kernel_rfl) (fun _ _ _ h => h) (Or.inl ⟨by rfl, ?yc8⟩) hHeld ?_
  case yc8 => intro w hSw; have q := rangeAt_later R.out hSw 3 _ rfl; go_simp
  simp only [Act.put, List.getElem_toArray, List.getElem_cons_succ, List.getElem_cons_zero, List.setIfInBounds_toArray, List.set_cons_zero, List.set_cons_succ]
  refine wpAnyH_take (i := 9) (v := .pointer (some ⟨b, o + 4, Option.none⟩)) rfl (by kernel_rfl) (by kernel_rfl) (by kernel_rfl) (fun _ _ _ h => h) (Or.inl ⟨by rfl, ?yc9⟩) hHeld ?_
  case yc9 => intro w hSw; go_simp
  simp only [Act.put, List.getElem_toArray, List.getElem_cons_succ, List.getElem_cons_zero, List.setIfInBounds_toArray, List.set_cons_zero, List.set_cons_succ]
  refine wpAnyH_take (i := 10) (v := .agg (xcells z u2).toArray) rfl (by kernel_rfl) (by kernel_rfl) (by kernel_rfl) (fun _ _ _ h => h) (yieldsIf_load_mid (by rfl) 65 _ rfl (b) (o + 4) rfl (xcells z u2) _ (fun w h => rangeAt_later RZ.out h) Tryz.underlying65 rfl sizeIE2) hHeld ?_
  simp only [Act.put, List.getElem_toArray, List.getElem_cons_succ, List.getElem_cons_zero, List.setIfInBounds_toArray, List.set_cons_zero, List.set_cons_succ]
  refine wpAnyH_ready (rs := [4]) (by kernel_rfl) (by simp) ?_
  refine AllReadyH.cons rfl (fun K hK => ?_) AllReadyH.nil
  rw [if_pos (by rfl)]
  simp only [List.getElem_toArray, List.getElem_cons_succ, List.getElem_cons_zero]
  go_wp2_with fail
  refine (CY.out _ hHeld).mono ?_
  rintro e w5 ⟨rfl, hb5⟩
  go_wp2_with fail
  refine hK.out _ _ (hHeld.trans (hb5.mono hHeld.size)) (fun hHeld => ?_)
  refine wpAnyH_take (i := 5) (v := .string ((⟨#[109, 97, 120, 40]⟩ : ByteArray) ++ T)) rfl (by kernel_rfl) (by kernel_rfl) (by kernel_rfl) (fun _ _ _ h => h) (Or.inl ⟨by rfl, ?yc5⟩) hHeld ?_
  case yc5 => intro w hSw; first | (go_simp; done) | (go_simp; rw [if_neg (by omega)]; done) | (go_simp; rw [if_neg (by simp only [ByteArray.size_append]; omega)]; done) | (go_simp; omega) | (go_simp; simp only [ByteArray.size_append]; omega)
  simp only [Act.put, List.getElem_toArray, List.getElem_cons_succ, List.getElem_cons_zero, List.setIfInBounds_toArray, List.set_cons_zero, List.set_cons_succ]
  refine wpAnyH_take (i := 6) (v := .string (((⟨#[109, 97, 120, 40]⟩ : ByteArray) ++ T) ++ (⟨#[44, 32]⟩ : ByteArray))) rfl (by kernel_rfl) (by kernel_rfl) (by kernel_rfl) (fun _ _ _ h => h) (Or.inl ⟨by rfl, ?yc6⟩) hHeld ?_
  case yc6 => intro w hSw; first | (go_simp; done) | (go_simp; rw [if_neg (by omega)]; done) | (go_simp; rw [if_neg (by simp only [ByteArray.size_append]; omega)]; done) | (go_simp; omega) | (go_simp; simp only [ByteArray.size_append]; omega)
  simp only [Act.put, List.getElem_toArray, List.getElem_cons_succ, List.getElem_cons_zero, List.setIfInBounds_toArray, List.set_cons_zero, List.set_cons_succ]
  refine wpAnyH_ready (rs := [11]) (by kernel_rfl) (by simp) ?_
  refine AllReadyH.cons rfl (fun K hK => ?_) AllReadyH.nil
  rw [if_pos (by rfl)]
  simp only [List.getElem_toArray, List.getElem_cons_succ, List.getElem_cons_zero]
  go_wp2_with fail
  refine (CZ.out _ hHeld).mono ?_
  rintro e w6 ⟨rfl, hb6⟩
  go_wp2_with fail
  refine hK.out _ _ (hHeld.trans (hb6.mono hHeld.size)) (fun hHeld => ?_)
  refine wpAnyH_take (i := 12) (v := .string ((((⟨#[109, 97, 120, 40]⟩ : ByteArray) ++ T) ++ (⟨#[44, 32]⟩ : ByteArray)) ++ U)) rfl (by kernel_rfl) (by kernel_rfl) (by kernel_rfl) (fun _ _ _ h => h) (Or.inl ⟨by rfl, ?yc12⟩) hHeld ?_
  case yc12 => intro w hSw; first | (go_simp; done) | (go_simp; rw [if_neg (by omega)]; done) | (go_simp; rw [if_neg (by simp only [ByteArray.size_append]; omega)]; done) | (go_simp; omega) | (go_simp; simp only [ByteArray.size_append]; omega)
  simp only [Act.put, List.getElem_toArray, List.getElem_cons_succ, List.getElem_cons_zero, List.setIfInBounds_toArray, List.set_cons_zero, List.set_cons_succ]
  refine wpAnyH_take (i := 13) (v := .string (((((⟨#[109, 97, 120, 40]⟩ : ByteArray) ++ T) ++ (⟨#[44, 32]⟩ : ByteArray)) ++ U) ++ (⟨#[41]⟩ : ByteArray))) rfl (by kernel_rfl) (by kernel_rfl) (by kernel_rfl) (fun _ _ _ h => h) (Or.inl ⟨by rfl, ?yc13⟩) hHeld ?_
  case yc13 => intro w hSw; first | (go_simp; done) | (go_simp; rw [if_neg (by omega)]; done) | (go_simp; rw [if_neg (by simp only [ByteArray.size_append]; omega)]; done) | (go_simp; omega) | (go_simp; simp only [ByteArray.size_append]; omega)
  simp only [Act.put, List.getElem_toArray, List.getElem_cons_succ, List.getElem_cons_zero, List.setIfInBounds_toArray, List.set_cons_zero, List.set_cons_succ]
  refine wpAnyH_take (i := 14) (v := .string (((((⟨#[109, 97, 120, 40]⟩ : ByteArray) ++ T) ++ (⟨#[44, 32]⟩ : ByteArray)) ++ U) ++ (⟨#[41]⟩ : ByteArray))) rfl (by kernel_rfl) (by kernel_rfl) (by kernel_rfl) (fun _ _ _ h => h) (Or.inl ⟨by rfl, ?yc14⟩) hHeld ?_
  case yc14 => intro w hSw; go_simp
  simp only [Act.put, List.getElem_toArray, List.getElem_cons_succ, List.getElem_cons_zero, List.setIfInBounds_toArray, List.set_cons_zero, List.set_cons_succ]
  refine wpAnyH_done (by kernel_rfl) ?_ _
  have BB := Lib.hid (B1.out.trans (hHeld.mono B1.out.size))
  clear hHeld bd
  go_wp2
  go_ret
  exact ⟨ret_str E.out, BB.out⟩
set_option maxHeartbeats 1000000 in
set_option maxRecDepth 100000 in
theorem l6Exp_1 (n : Int) (s : ByteArray) (h0 : 0 ≤ n) (h1 : n ≤ 999999) (w : World) (v : Value) : Calls Tryz.prog 33 #[.agg #[.int .i64 1, .int .i64 n, .string s, v]] w fun e w' => e = .returned (.string (str (itoa n))) ∧ Below w.heap.size w w' := by
  go_enter Tryz.func33, Tryz.ntmps33
  go_wp2_with fail
  refine (spec_NumText n (by omega) (by omega) _).mono ?_
  rintro e w1 ⟨rfl, hb1⟩
  have B1 := Lib.hid (below_alloc hb1)
  clear hb1
  go_wp2
  go_ret
  exact ⟨rfl, B1.out⟩
set_option maxRecDepth 100000 in
theorem l6Exp_2 (n : Int) (s : ByteArray) (w : World) (v : Value) : Calls Tryz.prog 33 #[.agg #[.int .i64 2, .int .i64 n, .string s, v]] w fun e w' => e = .returned (.string (str s.data.toList)) ∧ Below w.heap.size w w' := by
  rw [str_of]
  have B := Lib.hid (fun o => alloc_below w o)
  go_enter Tryz.func33, Tryz.ntmps33
  go_wp2
  go_ret
  exact ⟨rfl, B.out _⟩
theorem l6Exp_all : ∀ d, TxtC 33 d
  | 0 => fun x h => by rw [toldX_zero] at h; cases h
  | d + 1 => fun x h hn w v hv => by
    have ih := l6Exp_all d
    obtain ⟨⟨k, n, s⟩, l⟩ := x
    show Calls Tryz.prog 33 #[.agg #[.int .i64 k, .int .i64 n, .string s, v]] w _
    rcases told_cases h with ⟨_, hk, hl, h0, h1⟩ | ⟨_, hk, hl, hs⟩ | ⟨_, hk, hs, p, q, y, hl, hy⟩ | ⟨_, hk, p, q, p', q', y, z, hl, hy, hz⟩
    · have e := xT_num hl hk
      obtain rfl : k = 1 := hk
      rw [e]; exact l6Exp_1 n s h0 h1 w v
    · have e := xT_var hl hk
      obtain rfl : k = 2 := hk
      rw [e]; exact l6Exp_2 n s w v
    · have e := xT_at hl
      obtain rfl : k = 3 := hk
      obtain rfl : l = _ := hl
      rw [e]; exact l6Exp_3 d ih n s p q y hs hy (by simp only [enodes] at hn; omega) w v hv
    · have e := xT_pair hl
      obtain rfl : l = _ := hl
      simp only [enodes] at hn
      rw [e]
      have hk' : 4 ≤ k ∧ k ≤ 8 := hk
      have hc : k = 4 ∨ k = 5 ∨ k = 6 ∨ k = 7 ∨ k = 8 := by omega
      rcases hc with rfl | rfl | rfl | rfl | rfl
      · exact l6Exp_4 d ih n s p q p' q' y z hy hz (by omega) (by omega) w v hv
      · exact l6Exp_5 d ih n s p q p' q' y z hy hz (by omega) (by omega) w v hv
      · exact l6Exp_6 d ih n s p q p' q' y z hy hz (by omega) (by omega) w v hv
      · exact l6Exp_7 d ih n s p q p' q' y z hy hz (by omega) (by omega) w v hv
      · exact l6Exp_8 d ih n s p q p' q' y z hy hz (by omega) (by omega) w v hv
end Go.Proofs.YtkhccpjkajhnpabGreatDoor
