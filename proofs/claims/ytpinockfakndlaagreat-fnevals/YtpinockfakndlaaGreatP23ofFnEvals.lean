/-
  Texts in one: ProgHas, AstExps, AstStmt, AstStmt4.
-/
import Derived.Test.YtpinockfakndlaaGreatP22ofFnEvals
import Derived.Test.YtpinockfakndlaaGreatP06ofFnEvals
import Derived.Test.YtpinockfakndlaaGreatP10ofFnEvals
import Derived.Test.YtpinockfakndlaaGreatP20ofFnEvals
/-
  The contracts of the specification's l2Has, l4Apart, l4Arrs.
-/
namespace Go.Proofs.YtpinockfakndlaaGreat
open Go.RowKit Go.Lib
set_option linter.unusedSimpArgs false
set_option linter.unusedVariables false

theorem all_drop {α : Type} {p : α → Bool} {l : List α} {k : Nat} {x : α} (hx : l[k]? = some x) : (l.drop k).all p = (p x && (l.drop (k + 1)).all p) := by
  have hlt : k < l.length := (List.getElem?_eq_some_iff.1 hx).1
  rw [List.drop_eq_getElem_cons hlt, List.all_cons]
  have e : l[k] = x := (List.getElem?_eq_some_iff.1 hx).2
  rw [e]
theorem and_t {a b r : Bool} (h : (a && b) = r) (ha : a = true) : b = r := by rw [ha, Bool.true_and] at h; exact h
theorem and_f {a b r : Bool} (h : (a && b) = r) (ha : a = false) : r = false := by rw [ha, Bool.false_and] at h; exact h.symm
theorem all_end {α : Type} {p : α → Bool} {l : List α} {k : Nat} {r : Bool} (h : (l.drop k).all p = r) (hk : l.length ≤ k) : r = true := by rw [List.drop_of_length_le hk] at h; exact h.symm
theorem not_false {b : Bool} (h : (!b) = false) : b = true := by cases b <;> simp_all
theorem not_true' {b : Bool} (h : (!b) = true) : b = false := by cases b <;> simp_all
theorem TV.cells {w : World} {v : Value} {ns : List ByteArray} (h : TV w 0 v ns) {k : Nat} {x : ByteArray} (hx : ns[k]? = some x) : ∃ g off c, v = .slice (some ⟨g, off, Option.none⟩) ns.length c ∧ w.cell? ⟨g, off + k, Option.none⟩ = some (.string x) := by
  obtain ⟨ao, cap, rfl, h⟩ := h
  rcases h with h | ⟨g, off, rfl, _, _, h⟩
  · subst h; simp at hx
  · exact ⟨g, off, cap, rfl, h k x hx⟩
set_option maxHeartbeats 1000000 in
theorem has_is (ns : List ByteArray) (hn : ns.length ≤ 10000000) (s : ByteArray) (b : Bool) (hb : ns.all (fun t => !decide (t = s)) = !b) (v : Value) (w : World) (hv : TV w 0 v ns) :
    Calls Tryz.prog 118 #[v, .string s] w fun e w' => e = .returned (.bool b) ∧ w = w' := by
  have Hv := Lib.hid hv
  obtain ⟨ao, cap, rfl⟩ := hv.shape
  have Hb : Hid ((ns.drop 0).all (fun t => !decide (t = s)) = !b) := by rw [List.drop_zero]; exact hb
  clear hv hb
  go_enter Tryz.func118, Tryz.ntmps118
  go_wp2
  go_loop [5] (fun i => ∃ k : Nat, k ≤ ns.length ∧ i = .int .i64 k ∧ Hid ((ns.drop k).all (fun t => !decide (t = s)) = !b)) (fun i => ns.length - (RowKit.intOf i).toNat)
  case atStart => exact ⟨0, by omega, rfl, Hb⟩
  case round =>
    obtain ⟨k, hk, rfl, hall⟩ := hrel
    clear Hb
    by_cases hlt : k < ns.length
    · have hltI : (k : Int) < (ns.length : Int) := by omega
      obtain ⟨x, hx⟩ : ∃ x, ns[k]? = some x := ⟨ns[k], List.getElem?_eq_getElem hlt⟩
      obtain ⟨g, off, c, hvv, hcell⟩ := Hv.out.cells hx
      injection hvv with e1 e2 e3
      subst e1
      have hd : Hid ((!decide (x = s) && (ns.drop (k + 1)).all (fun t => !decide (t = s))) = !b) := by rw [← all_drop (p := fun t => !decide (t = s)) hx]; exact hall.out
      clear hx hall Hv e2 e3
      by_cases he : x = s
      · have h1 := Lib.hid (not_false (and_f hd.out (by rw [decide_eq_true he]; rfl)))
        subst he
        clear hd
        go_wp2
        go_ret
        exact ⟨ret_bool h1.out.symm, rfl⟩
      · have h1 := Lib.hid (and_t hd.out (by rw [decide_eq_false he]; rfl))
        have hne := str_ne he
        clear hd
        go_wp2
        go_round
        case rel => exact ⟨k + 1, by omega, by go_num, h1⟩
        case measure => simp [RowKit.intOf]; omega
    · have h1 := Lib.hid (not_true' (all_end hall.out (by omega)))
      go_wp2
      go_ret
      exact ⟨ret_bool h1.out.symm, rfl⟩
/-- Two lists have nothing in common. -/
def apart (a b : List ByteArray) : Bool := a.all (fun s => b.all (fun t => !decide (t = s)))
set_option maxHeartbeats 1000000 in
theorem l4Apart_is (xs bs : List ByteArray) (hna : xs.length ≤ 10000000) (hnb : bs.length ≤ 10000000) (r : Bool) (hr : apart xs bs = r) (va vb : Value) (w : World) (ha : TV w 0 va xs) (hb : TV w 0 vb bs) :
    Calls Tryz.prog 67 #[va, vb] w fun e w' => e = .returned (.bool r) ∧ w = w' := by
  have Hv := Lib.hid ha
  have Hw := Lib.hid hb
  obtain ⟨ao, cap, rfl⟩ := ha.shape
  obtain ⟨bo, bcap, rfl⟩ := hb.shape
  have Hr : Hid ((xs.drop 0).all (fun s => bs.all (fun t => !decide (t = s))) = r) := by rw [List.drop_zero]; exact hr
  clear ha hb hr
  go_enter Tryz.func67, Tryz.ntmps67
  go_wp2
  go_loop [5] (fun i => ∃ k : Nat, k ≤ xs.length ∧ i = .int .i64 k ∧ Hid ((xs.drop k).all (fun s => bs.all (fun t => !decide (t = s))) = r)) (fun i => xs.length - (RowKit.intOf i).toNat)
  case atStart => exact ⟨0, by omega, rfl, Hr⟩
  case round =>
    obtain ⟨k, hk, rfl, hall⟩ := hrel
    clear Hr
    by_cases hlt : k < xs.length
    · have hltI : (k : Int) < (xs.length : Int) := by omega
      obtain ⟨x, hx⟩ : ∃ x, xs[k]? = some x := ⟨xs[k], List.getElem?_eq_getElem hlt⟩
      obtain ⟨g, off, c, hvv, hcell⟩ := Hv.out.cells hx
      injection hvv with e1 e2 e3
      subst e1
      have hd : Hid ((bs.all (fun t => !decide (t = x)) && (xs.drop (k + 1)).all (fun s => bs.all (fun t => !decide (t = s)))) = r) := by rw [← all_drop (p := fun s => bs.all (fun t => !decide (t = s))) hx]; exact hall.out
      clear hx hall Hv e2 e3
      cases hq : bs.all (fun t => !decide (t = x)) with
      | false =>
        have h1 := Lib.hid (and_f hd.out hq)
        have C := Lib.hid (has_is bs hnb x true (by rw [hq]; rfl) _ w Hw.out)
        clear hd hq
        go_wp2_with fail
        refine C.out.mono ?_
        rintro e w' ⟨rfl, rfl⟩
        go_wp2
        go_ret
        exact ⟨ret_bool h1.out.symm, rfl⟩
      | true =>
        have h1 := Lib.hid (and_t hd.out hq)
        have C := Lib.hid (has_is bs hnb x false (by rw [hq]; rfl) _ w Hw.out)
        clear hd hq
        go_wp2_with fail
        refine C.out.mono ?_
        rintro e w' ⟨rfl, rfl⟩
        go_wp2
        go_round
        case rel => exact ⟨k + 1, by omega, by go_num, h1⟩
        case measure => simp [RowKit.intOf]; omega
    · have h1 := Lib.hid (all_end hall.out (by omega))
      go_wp2
      go_ret
      exact ⟨ret_bool h1.out.symm, rfl⟩
/-- Each of these is an array. -/
def allArrs (ts : List AR) (ns : List ByteArray) : Bool := ns.all (fun s => decide (0 ≤ arrGo ts 0 s))
set_option maxHeartbeats 2000000 in
set_option maxRecDepth 100000 in
theorem l4Arrs_is (ts : List AR) (hn : ts.length ≤ 1048576) (ns : List ByteArray) (hnn : ns.length ≤ 10000000) (r : Bool) (hr : allArrs ts ns = r) (va vb vl : Value) (hvb : vb.oneCell' = true) (w : World) (ha : AV w 0 va ts) (hl : TV w 0 vl ns) :
    Calls Tryz.prog 65 #[.agg #[va, vb], vl] w fun e w' => e = .returned (.bool r) ∧ Below w.heap.size w w' := by
  have Hv := Lib.hid hl
  have Ha := Lib.hid ha
  obtain ⟨ao, cap, rfl⟩ := ha.shape
  obtain ⟨lo, lcap, rfl⟩ := hl.shape
  have B := Lib.hid (alloc_below w (.cells #[.slice ao ts.length cap, vb] 27))
  have R : Hid ((w.alloc (.cells #[.slice ao ts.length cap, vb] 27)).rangeAt w.heap.size 0 [.slice ao ts.length cap, vb]) := blk_range (arr := #[.slice ao ts.length cap, vb]) (heap_last _ _)
  have Hr : Hid ((ns.drop 0).all (fun s => decide (0 ≤ arrGo ts 0 s)) = r) := by rw [List.drop_zero]; exact hr
  clear ha hl hr
  go_enter Tryz.func65, Tryz.ntmps65
  go_wp2
  go_loopw [5] (fun i wr => ∃ k : Nat, k ≤ ns.length ∧ i = .int .i64 k ∧ Hid ((ns.drop k).all (fun s => decide (0 ≤ arrGo ts 0 s)) = r) ∧ Hid (Below w.heap.size w wr) ∧ Hid (wr.rangeAt w.heap.size 0 [.slice ao ts.length cap, vb])) (fun i _ => ns.length - (RowKit.intOf i).toNat)
  case atStart => exact ⟨0, by omega, rfl, Hr, B, R⟩
  case round =>
    obtain ⟨k, hk, rfl, hall, hbr, hrg⟩ := hrel
    clear Hr B R
    by_cases hlt : k < ns.length
    · have hltI : (k : Int) < (ns.length : Int) := by omega
      obtain ⟨x, hx⟩ : ∃ x, ns[k]? = some x := ⟨ns[k], List.getElem?_eq_getElem hlt⟩
      obtain ⟨g, off, c, hvv, hcell⟩ := (Hv.out.later hbr.out).cells hx
      injection hvv with e1 e2 e3
      subst e1
      have hd : Hid ((decide (0 ≤ arrGo ts 0 x) && (ns.drop (k + 1)).all (fun s => decide (0 ≤ arrGo ts 0 s))) = r) := by rw [← all_drop (p := fun s => decide (0 ≤ arrGo ts 0 s)) hx]; exact hall.out
      have Hcell := Lib.hid hcell
      clear hx hall Hv e2 e3 hcell
      have bd : Below wr.heap.size wr wr.drew := (Below.refl _ wr).drew
      have CA : Hid (∀ (w2 : World), Below wr.heap.size wr w2 → Calls Tryz.prog 87 #[.agg #[.slice ao ts.length cap, vb], .string x] w2 fun e w' => e = .returned (.int .i64 (arrGo ts 0 x)) ∧ Below w2.heap.size w2 w') := fun w2 hb2 => spec_ArrAt ts hn x _ _ hvb w2 ((Ha.out.later hbr.out).later hb2)
      clear Ha
      by_cases hge : 0 ≤ arrGo ts 0 x
      · have h1 := Lib.hid (and_t hd.out (decide_eq_true hge))
        have hge' : ¬ arrGo ts 0 x < 0 := by omega
        clear hd
        go_wp2_with fail
        refine wp_region_held_drew (S := fun w' => w'.rangeAt w.heap.size 0 [.slice ao ts.length cap, vb] ∧ w'.cell? ⟨g, off + k, Option.none⟩ = some (.string x)) (by kernel_rfl) ⟨(World.rangeAt_drew _ _ _ _).2 hrg.out, keeps bd Hcell.out⟩ (fun hHeld => ?_)
        refine wpAnyH_take (i := 0) (v := .agg ([.slice ao ts.length cap, vb]).toArray) rfl (by kernel_rfl) (by kernel_rfl) (by kernel_rfl) (fun _ _ _ h => h) (yieldsIf_load_mid (by rfl) 27 _ rfl (w.heap.size) (0) rfl ([.slice ao ts.length cap, vb]) _ (fun w h => h.1) Tryz.underlying27 rfl sizeIP) hHeld ?_
        simp only [Act.put, List.getElem_toArray, List.getElem_cons_succ, List.getElem_cons_zero, List.setIfInBounds_toArray, List.set_cons_zero, List.set_cons_succ]
        refine wpAnyH_take (i := 1) (v := .slice (some ⟨g, off, Option.none⟩) ns.length lcap) rfl (by kernel_rfl) (by kernel_rfl) (by kernel_rfl) (fun _ _ _ h => h) (Or.inl ⟨by rfl, ?ya1⟩) hHeld ?_
        case ya1 => intro w hSw; go_simp
        simp only [Act.put, List.getElem_toArray, List.getElem_cons_succ, List.getElem_cons_zero, List.setIfInBounds_toArray, List.set_cons_zero, List.set_cons_succ]
        refine wpAnyH_take (i := 2) (v := .int .i64 (k : Int)) rfl (by kernel_rfl) (by kernel_rfl) (by kernel_rfl) (fun _ _ _ h => h) (Or.inl ⟨by rfl, ?ya2⟩) hHeld ?_
        case ya2 => intro w hSw; go_simp
        simp only [Act.put, List.getElem_toArray, List.getElem_cons_succ, List.getElem_cons_zero, List.setIfInBounds_toArray, List.set_cons_zero, List.set_cons_succ]
        refine wpAnyH_take (i := 3) (v := .pointer (some ⟨g, off + k, Option.none⟩)) rfl (by kernel_rfl) (by kernel_rfl) (by kernel_rfl) (fun _ _ _ h => h) (Or.inl ⟨by rfl, ?ya3⟩) hHeld ?_
        case ya3 => intro w hSw; go_simp
        simp only [Act.put, List.getElem_toArray, List.getElem_cons_succ, List.getElem_cons_zero, List.setIfInBounds_toArray, List.set_cons_zero, List.set_cons_succ]
        refine wpAnyH_take (i := 4) (v := .string x) rfl (by kernel_rfl) (by kernel_rfl) (by kernel_rfl) (fun _ _ _ h => h) (Or.inl ⟨by rfl, ?ya4⟩) hHeld ?_
        case ya4 => intro w hSw; have q := hSw.2; go_simp
        simp only [Act.put, List.getElem_toArray, List.getElem_cons_succ, List.getElem_cons_zero, List.setIfInBounds_toArray, List.set_cons_zero, List.set_cons_succ]
        refine wpAnyH_ready (rs := [5]) (by kernel_rfl) (by simp) ?_
        refine AllReadyH.cons rfl (fun K hK => ?_) AllReadyH.nil
        rw [if_pos (by rfl)]
        simp only [List.getElem_toArray, List.getElem_cons_succ, List.getElem_cons_zero]
        go_wp2_with fail
        refine (CA.out _ bd).mono ?_
        rintro e w4 ⟨rfl, hb4⟩
        go_wp2_with fail
        refine hK.out _ _ (⟨rangeAt_later hHeld.1 hb4, keeps hb4 hHeld.2⟩) (fun hHeld => ?_)
        refine wpAnyH_take (i := 6) (v := .bool false) rfl (by kernel_rfl) (by kernel_rfl) (by kernel_rfl) (fun _ _ _ h => h) (Or.inl ⟨by rfl, ?ya6⟩) hHeld ?_
        case ya6 => intro w hSw; go_simp
        simp only [Act.put, List.getElem_toArray, List.getElem_cons_succ, List.getElem_cons_zero, List.setIfInBounds_toArray, List.set_cons_zero, List.set_cons_succ]
        refine wpAnyH_done (by kernel_rfl) ?_ _
        have B4 := Lib.hid (hbr.out.trans ((bd.trans (hb4.mono bd.size)).mono hbr.out.size))
        have R4 := Lib.hid hHeld.1
        clear hHeld hb4 bd Hcell hrg hbr
        go_wp2
        go_roundw
        case rel => exact ⟨k + 1, by omega, by go_num, h1, B4, R4⟩
        case measure => simp [RowKit.intOf]; omega
      · have h1 := Lib.hid (and_f hd.out (decide_eq_false hge))
        have hge' : arrGo ts 0 x < 0 := by omega
        clear hd
        go_wp2_with fail
        refine wp_region_held_drew (S := fun w' => w'.rangeAt w.heap.size 0 [.slice ao ts.length cap, vb] ∧ w'.cell? ⟨g, off + k, Option.none⟩ = some (.string x)) (by kernel_rfl) ⟨(World.rangeAt_drew _ _ _ _).2 hrg.out, keeps bd Hcell.out⟩ (fun hHeld => ?_)
        refine wpAnyH_take (i := 0) (v := .agg ([.slice ao ts.length cap, vb]).toArray) rfl (by kernel_rfl) (by kernel_rfl) (by kernel_rfl) (fun _ _ _ h => h) (yieldsIf_load_mid (by rfl) 27 _ rfl (w.heap.size) (0) rfl ([.slice ao ts.length cap, vb]) _ (fun w h => h.1) Tryz.underlying27 rfl sizeIP) hHeld ?_
        simp only [Act.put, List.getElem_toArray, List.getElem_cons_succ, List.getElem_cons_zero, List.setIfInBounds_toArray, List.set_cons_zero, List.set_cons_succ]
        refine wpAnyH_take (i := 1) (v := .slice (some ⟨g, off, Option.none⟩) ns.length lcap) rfl (by kernel_rfl) (by kernel_rfl) (by kernel_rfl) (fun _ _ _ h => h) (Or.inl ⟨by rfl, ?yb1⟩) hHeld ?_
        case yb1 => intro w hSw; go_simp
        simp only [Act.put, List.getElem_toArray, List.getElem_cons_succ, List.getElem_cons_zero, List.setIfInBounds_toArray, List.set_cons_zero, List.set_cons_succ]
        refine wpAnyH_take (i := 2) (v := .int .i64 (k : Int)) rfl (by kernel_rfl) (by kernel_rfl) (by kernel_rfl) (fun _ _ _ h => h) (Or.inl ⟨by rfl, ?yb2⟩) hHeld ?_
        case yb2 => intro w hSw; go_simp
        simp only [Act.put, List.getElem_toArray, List.getElem_cons_succ, List.getElem_cons_zero, List.setIfInBounds_toArray, List.set_cons_zero, List.set_cons_succ]
        refine wpAnyH_take (i := 3) (v := .pointer (some ⟨g, off + k, Option.none⟩)) rfl (by kernel_rfl) (by kernel_rfl) (by kernel_rfl) (fun _ _ _ h => h) (Or.inl ⟨by rfl, ?yb3⟩) hHeld ?_
        case yb3 => intro w hSw; go_simp
        simp only [Act.put, List.getElem_toArray, List.getElem_cons_succ, List.getElem_cons_zero, List.setIfInBounds_toArray, List.set_cons_zero, List.set_cons_succ]
        refine wpAnyH_take (i := 4) (v := .string x) rfl (by kernel_rfl) (by kernel_rfl) (by kernel_rfl) (fun _ _ _ h => h) (Or.inl ⟨by rfl, ?yb4⟩) hHeld ?_
        case yb4 => intro w hSw; have q := hSw.2; go_simp
        simp only [Act.put, List.getElem_toArray, List.getElem_cons_succ, List.getElem_cons_zero, List.setIfInBounds_toArray, List.set_cons_zero, List.set_cons_succ]
        refine wpAnyH_ready (rs := [5]) (by kernel_rfl) (by simp) ?_
        refine AllReadyH.cons rfl (fun K hK => ?_) AllReadyH.nil
        rw [if_pos (by rfl)]
        simp only [List.getElem_toArray, List.getElem_cons_succ, List.getElem_cons_zero]
        go_wp2_with fail
        refine (CA.out _ bd).mono ?_
        rintro e w4 ⟨rfl, hb4⟩
        go_wp2_with fail
        refine hK.out _ _ (⟨rangeAt_later hHeld.1 hb4, keeps hb4 hHeld.2⟩) (fun hHeld => ?_)
        refine wpAnyH_take (i := 6) (v := .bool true) rfl (by kernel_rfl) (by kernel_rfl) (by kernel_rfl) (fun _ _ _ h => h) (Or.inl ⟨by rfl, ?yb6⟩) hHeld ?_
        case yb6 => intro w hSw; go_simp
        simp only [Act.put, List.getElem_toArray, List.getElem_cons_succ, List.getElem_cons_zero, List.setIfInBounds_toArray, List.set_cons_zero, List.set_cons_succ]
        refine wpAnyH_done (by kernel_rfl) ?_ _
        have B4 := Lib.hid (hbr.out.trans ((bd.trans (hb4.mono bd.size)).mono hbr.out.size))
        have R4 := Lib.hid hHeld.1
        clear hHeld hb4 bd Hcell hrg hbr
        go_wp2
        go_ret
        exact ⟨ret_bool h1.out.symm, B4.out⟩
    · have h1 := Lib.hid (all_end hall.out (by omega))
      go_wp2
      go_ret
      exact ⟨ret_bool h1.out.symm, hbr.out⟩
end Go.Proofs.YtpinockfakndlaaGreat
/-
  The contracts of the landed code's expsOk and noExps, and of the specification's l3No.
-/
namespace Go.Proofs.YtpinockfakndlaaGreat
open Go.RowKit Go.Lib
set_option linter.unusedSimpArgs false
set_option linter.unusedVariables false

def zeroH : EH := ⟨0, 0, ⟨#[]⟩⟩
def noX (x : X) : Bool := hsame x.h zeroH && decide (elen x.l = 0)
def eall : EF → Bool
  | .nil => true
  | .node _ _ h l r => expOk ⟨h, l⟩ && eall r
def enone : EF → Bool
  | .nil => true
  | .node _ _ h l r => noX ⟨h, l⟩ && enone r
set_option maxHeartbeats 2000000 in
set_option maxRecDepth 100000 in
theorem expsOk_is (F : EF) (hF : enodes F ≤ 9000000) (w : World) (v : Value) (hv : EV w 0 F v) :
    Calls Tryz.prog 159 #[v] w fun e w' => e = .returned (.bool (eall F)) ∧ Below w.heap.size w w' := by
  obtain ⟨b, o, ao, cap, rfl, hao, _, hin⟩ := hv
  have hln : (elen F : Int) ≤ 9000000 := by have := elen_le F; omega
  go_enter Tryz.func159, Tryz.ntmps159
  go_wp2
  go_loopw [7] (fun i wr => ∃ (R : EF) (k : Nat), i = .int .i64 (k : Int) ∧ Hid (k + elen R = elen F ∧ enodes R ≤ 9000000 ∧ EIn w 0 R b (o + k * 4) ∧ eall F = eall R) ∧ Below w.heap.size w wr) (fun i _ => elen F - (RowKit.intOf i).toNat)
  case atStart => exact ⟨F, 0, rfl, ⟨by omega, hF, by simpa using hin, rfl⟩, Below.refl _ _⟩
  case round =>
    obtain ⟨R, k, rfl, hr, hbw⟩ := hrel
    obtain ⟨e1, e2, e3, e4⟩ := hr.out
    cases R with
    | nil =>
      have hk : ¬ (k : Int) < (elen F : Int) := by simp only [elen] at e1; omega
      have hf : Hid (eall F = true) := e4
      clear e4
      go_wp2
      go_ret
      exact retB hf.out hbw
    | node p q h l r =>
      have hlt : (k : Int) < (elen F : Int) := by simp only [elen] at e1; omega
      have hne : ¬ F = .nil := by intro e; subst e; simp only [elen] at e1; omega
      obtain rfl : ao = some ⟨b, o, Option.none⟩ := hao.resolve_right hne
      obtain ⟨⟨a0, a1, a2, u, a3, hu⟩, _⟩ := EIn_node.1 e3
      have Hrg := Lib.hid (rangeAt_later (x_range (x := ⟨h, l⟩) a0 a1 a2 a3) hbw)
      have i1 := hu.isOne
      have HU := Lib.hid hu
      simp only [enodes] at e2
      simp only [eall] at e4
      have He : Hid ((k + 1 + elen r = elen F ∧ enodes r ≤ 9000000 ∧ EIn w 0 r b (o + (k + 1) * 4)) ∧ eall F = (expOk ⟨h, l⟩ && eall r)) := ⟨⟨by simp only [elen] at e1; omega, by omega, by rw [show o + (k + 1) * 4 = o + k * 4 + 4 by omega]; exact (EIn_node.1 e3).2⟩, e4⟩
      have Hn : Hid (enodes l ≤ 9000000) := show enodes l ≤ 9000000 by omega
      obtain ⟨tv, htv⟩ : ∃ t, expOk ⟨h, l⟩ = t := ⟨_, rfl⟩
      have Htv := Lib.hid htv
      clear hr e1 e2 e3 e4 hne hao hu a0 a1 a2 a3 hin htv
      go_wp2_with (first | (refine wpList_load_mid rfl 43 _ rfl b (o + k * 4) rfl _ _ Hrg.out Tryz.underlying43 rfl sizeIE2 ?_) | (refine store_abs rfl 43 _ _ rfl _ _ _ rfl rfl ?ht sizeIE2 ?ho ?_; exact (newthere4 wr _); exact (oneX ⟨h, l⟩ u i1); intro W1 hW; have HW1 := Lib.hid (newblk4 ⟨h, l⟩ u hW); clear hW) | (refine wpList_load_mid rfl 43 _ rfl wr.heap.size 0 rfl _ _ HW1.out.1 Tryz.underlying43 rfl sizeIE2 ?_))
      refine (impl_ExpOk ⟨h, l⟩ Hn.out _ u (HU.out.later (hbw.trans (HW1.out.2.mono hbw.size)))).mono ?_
      rintro e w2 ⟨rfl, hb2⟩
      rw [Htv.out]
      have hbw2 := hbw.trans ((HW1.out.2.trans (hb2.mono HW1.out.2.size)).mono hbw.size)
      clear hb2 HW1 Hrg hbw i1
      cases tv with
      | false =>
        have hf : Hid (eall F = false) := show eall F = false by rw [He.out.2, Htv.out]; rfl
        go_wp2
        go_ret
        exact retB hf.out hbw2
      | true =>
        go_wp2
        go_roundw
        case rel => exact ⟨r, k + 1, by go_num, ⟨He.out.1.1, He.out.1.2.1, He.out.1.2.2, by rw [He.out.2, Htv.out]; rfl⟩, hbw2⟩
        case measure => simp [RowKit.intOf]; omega
set_option maxHeartbeats 2000000 in
set_option maxRecDepth 100000 in
theorem noExps_is (F : EF) (hF : elen F ≤ 9000000) (w : World) (v : Value) (hv : EV w 0 F v) :
    Calls Tryz.prog 160 #[v] w fun e w' => e = .returned (.bool (enone F)) ∧ Below w.heap.size w w' := by
  obtain ⟨b, o, ao, cap, rfl, hao, _, hin⟩ := hv
  have hln : (elen F : Int) ≤ 9000000 := by omega
  go_enter Tryz.func160, Tryz.ntmps160
  go_wp2
  go_loopw [7] (fun i wr => ∃ (R : EF) (k : Nat), i = .int .i64 (k : Int) ∧ Hid (k + elen R = elen F ∧ EIn w 0 R b (o + k * 4) ∧ enone F = enone R) ∧ Below w.heap.size w wr) (fun i _ => elen F - (RowKit.intOf i).toNat)
  case atStart => exact ⟨F, 0, rfl, ⟨by omega, by simpa using hin, rfl⟩, Below.refl _ _⟩
  case round =>
    obtain ⟨R, k, rfl, hr, hbw⟩ := hrel
    obtain ⟨e1, e3, e4⟩ := hr.out
    cases R with
    | nil =>
      have hk : ¬ (k : Int) < (elen F : Int) := by simp only [elen] at e1; omega
      have hf : Hid (enone F = true) := e4
      clear e4
      go_wp2
      go_ret
      exact retB hf.out hbw
    | node p q h l r =>
      have hlt : (k : Int) < (elen F : Int) := by simp only [elen] at e1; omega
      have hne : ¬ F = .nil := by intro e; subst e; simp only [elen] at e1; omega
      obtain rfl : ao = some ⟨b, o, Option.none⟩ := hao.resolve_right hne
      obtain ⟨⟨a0, a1, a2, u, a3, hu⟩, _⟩ := EIn_node.1 e3
      have Hrg := Lib.hid (rangeAt_later (x_range (x := ⟨h, l⟩) a0 a1 a2 a3) hbw)
      have i1 := hu.isOne
      obtain ⟨ua, uc, rfl⟩ := hu.shape
      simp only [enone] at e4
      have He : Hid ((k + 1 + elen r = elen F ∧ EIn w 0 r b (o + (k + 1) * 4)) ∧ enone F = (noX ⟨h, l⟩ && enone r)) := ⟨⟨by simp only [elen] at e1; omega, by rw [show o + (k + 1) * 4 = o + k * 4 + 4 by omega]; exact (EIn_node.1 e3).2⟩, e4⟩
      obtain ⟨tv, htv⟩ : ∃ t, hsame h zeroH = t := ⟨_, rfl⟩
      have Htv := Lib.hid htv
      have Hq : Hid (∀ w, Calls Tryz.prog 171 #[.agg (xcells ⟨h, l⟩ (.slice ua (elen l) uc)).toArray, .agg #[.int .i64 0, .int .i64 0, .string ⟨#[]⟩, .slice Option.none 0 0]] w fun e w' => e = .returned (.bool tv) ∧ Below w.heap.size w w') := fun w => by rw [← htv]; exact sameTop_is ⟨h, l⟩ ⟨zeroH, .nil⟩ (.slice ua (elen l) uc) (.slice Option.none 0 0) w
      clear hr e1 e3 e4 hne hao hu a0 a1 a2 a3 hin htv
      go_wp2_with (first | (refine wpList_load_mid rfl 43 _ rfl b (o + k * 4) rfl _ _ Hrg.out Tryz.underlying43 rfl sizeIE2 ?_) | (refine store_abs rfl 43 _ _ rfl _ _ _ rfl rfl ?ht sizeIE2 ?ho ?_; exact (newthere4 wr _); exact (oneX ⟨h, l⟩ _ i1); intro W1 hW; have HW1 := Lib.hid (newblk4 ⟨h, l⟩ _ hW); clear hW) | (refine wpList_load_mid rfl 43 _ rfl wr.heap.size 0 rfl _ _ HW1.out.1 Tryz.underlying43 rfl sizeIE2 ?_))
      refine (Hq.out _).mono ?_
      rintro e w2 ⟨rfl, hb2⟩
      have hbw2 := hbw.trans ((HW1.out.2.trans (hb2.mono HW1.out.2.size)).mono hbw.size)
      have c3 : w2.cell? ⟨wr.heap.size, 3, Option.none⟩ = some (.slice ua (elen l) uc) := by have := rangeAt_later HW1.out.1 hb2 3 _ rfl; rwa [Nat.zero_add] at this
      clear hb2 HW1 Hrg hbw i1 Hq
      cases tv with
      | false =>
        have hf : Hid (enone F = false) := show enone F = false by rw [He.out.2]; simp [noX, Htv.out]
        go_wp2
        go_ret
        exact retB hf.out hbw2
      | true =>
        by_cases hl : elen l = 0
        · have h1 : ¬ (0 : Int) < (elen l : Int) := by omega
          have Hf : Hid (enone F = enone r) := show enone F = enone r by rw [He.out.2]; simp [noX, Htv.out, hl]
          clear hl
          go_wp2
          go_roundw
          case rel => exact ⟨r, k + 1, by go_num, ⟨He.out.1.1, He.out.1.2, Hf.out⟩, hbw2⟩
          case measure => simp [RowKit.intOf]; omega
        · have h1 : (0 : Int) < (elen l : Int) := by omega
          have hf : Hid (enone F = false) := show enone F = false by rw [He.out.2]; simp [noX, hl]
          clear hl
          go_wp2
          go_ret
          exact retB hf.out hbw2
theorem noX_eq (x : X) : noX x = (decide (x.h.k = 0) && decide (x.h.n = 0) && decide (x.h.s.size = 0) && decide (elen x.l = 0)) := by
  have hs : decide (x.h.s = zeroH.s) = decide (x.h.s.size = 0) := by
    apply decide_eq_decide.2
    constructor
    · intro e; rw [e]; rfl
    · intro e
      apply ByteArray.ext
      have : x.h.s.data.toList = [] := List.length_eq_zero_iff.1 (by simpa using e)
      exact Array.toList_inj.1 (by rw [this]; rfl)
  unfold noX hsame
  rw [hs]
  rfl
set_option maxRecDepth 100000 in
theorem l3No_is (x : X) (w : World) (v : Value) (hv : EV w 0 x.l v) : Calls Tryz.prog 167 #[.agg #[.int .i64 x.h.k, .int .i64 x.h.n, .string x.h.s, v]] w fun e w' => e = .returned (.bool (noX x)) ∧ Below w.heap.size w w' := by
  obtain ⟨a, c, rfl⟩ := hv.shape
  obtain ⟨⟨k, n, s⟩, l⟩ := x
  have HE := Lib.hid (noX_eq ⟨⟨k, n, s⟩, l⟩)
  clear hv
  by_cases hk : k = 0
  case neg =>
    have hf : Hid (noX ⟨⟨k, n, s⟩, l⟩ = false) := show noX _ = false by rw [HE.out]; simp [hk]
    have h1 := int_ne hk
    go_enter Tryz.func167, Tryz.ntmps167
    go_wp2
    go_ret
    exact retB hf.out (alloc_below _ _)
  subst hk
  by_cases hn : n = 0
  case neg =>
    have hf : Hid (noX ⟨⟨0, n, s⟩, l⟩ = false) := show noX _ = false by rw [HE.out]; simp [hn]
    have h1 := int_ne hn
    go_enter Tryz.func167, Tryz.ntmps167
    go_wp2
    go_ret
    exact retB hf.out (alloc_below _ _)
  subst hn
  by_cases hs : s.size = 0
  case neg =>
    have hf : Hid (noX ⟨⟨0, 0, s⟩, l⟩ = false) := show noX _ = false by rw [HE.out]; simp [hs]
    have h1 := str_full hs
    clear hs
    go_enter Tryz.func167, Tryz.ntmps167
    go_wp2
    go_ret
    exact retB hf.out (alloc_below _ _)
  have h1 := str_empty hs
  by_cases hl : elen l = 0
  case neg =>
    have hf : Hid (noX ⟨⟨0, 0, s⟩, l⟩ = false) := show noX _ = false by rw [HE.out]; simp [hl]
    have h2 : ((elen l : Int) == 0) = false := int_ne (by omega)
    clear hs hl
    go_enter Tryz.func167, Tryz.ntmps167
    go_wp2
    go_ret
    exact retB hf.out (alloc_below _ _)
  have hf : Hid (noX ⟨⟨0, 0, s⟩, l⟩ = true) := show noX _ = true by rw [HE.out]; simp [hl, hs]
  have h2 : ((elen l : Int) == 0) = true := by rw [beq_iff_eq]; omega
  clear hs hl
  go_enter Tryz.func167, Tryz.ntmps167
  go_wp2
  go_ret
  exact retB hf.out (alloc_below _ _)
end Go.Proofs.YtpinockfakndlaaGreat
/-
  What it is that a statement is as told; the contracts of the landed code's stmtAsTold, bodyAsTold, StmtOk.
-/
namespace Go.Proofs.YtpinockfakndlaaGreat
open Go.RowKit Go.Lib
set_option linter.unusedSimpArgs false
set_option linter.unusedVariables false

def headOk (h : SH) : Bool :=
  if h.k = 1 then nameOk h.s.data.toList && (expOk h.x2 && (noX h.x1 && (noX h.x3 && noX h.x4)))
  else if h.k = 2 then nameOk h.s.data.toList && ((expOk h.x1 && expOk h.x2) && (noX h.x3 && noX h.x4))
  else if h.k = 3 then nameOk h.s.data.toList && ((expOk h.x3 && expOk h.x4) && (noX h.x1 && noX h.x2))
  else if h.k = 4 then decide (h.s.size = 0) && (expOk h.x2 && (noX h.x1 && (noX h.x3 && noX h.x4)))
  else false
def toldS : Nat → SF → Bool
  | _, .nil => true
  | d, .node _ _ h l r => (headOk h && (if h.k = 3 then decide (1 ≤ d) && (decide (1 ≤ slen l) && (decide (slen l ≤ 6) && toldS (d - 1) l)) else decide (slen l = 0))) && toldS d r
def bodyTold (d : Nat) (l : SF) : Bool := decide (1 ≤ slen l) && (decide (slen l ≤ 6) && toldS d l)
def toldSt (d : Nat) (h : SH) (l : SF) : Bool := headOk h && (if h.k = 3 then decide (1 ≤ d) && bodyTold (d - 1) l else decide (slen l = 0))
theorem toldS_node (d p q : Nat) (h : SH) (l r : SF) : toldS d (.node p q h l r) = (toldSt d h l && toldS d r) := rfl
/-- All expressions of all heads are small. -/
def small9 (h : SH) : Prop := enodes h.x1.l ≤ 4000000 ∧ enodes h.x2.l ≤ 4000000 ∧ enodes h.x3.l ≤ 4000000 ∧ enodes h.x4.l ≤ 4000000
def all9 : SF → Prop
  | .nil => True
  | .node _ _ h l r => small9 h ∧ all9 l ∧ all9 r
theorem laid2 {w : World} {x y : X} {u v : Value} (t : TypeId) (h1 : EV w 0 x.l u) (h2 : EV w 0 y.l v) : EV (w.alloc (.cells (xcells x u ++ xcells y v).toArray t)) 0 (.node 0 0 x.h x.l (.node 0 0 y.h y.l .nil)) (.slice (some ⟨w.heap.size, 0, Option.none⟩) 2 2) :=
  EV.laid0 (F := .node 0 0 x.h x.l (.node 0 0 y.h y.l .nil)) ((ERow.one (h1.later (alloc_below _ _))).app (P := .node 0 0 x.h x.l .nil) (ERow.one (h2.later (alloc_below _ _)))) (new_range w (xcells x u ++ xcells y v).toArray t) 2
theorem laid1 {w : World} {x : X} {u : Value} (t : TypeId) (h1 : EV w 0 x.l u) : EV (w.alloc (.cells (xcells x u).toArray t)) 0 (.node 0 0 x.h x.l .nil) (.slice (some ⟨w.heap.size, 0, Option.none⟩) 1 1) :=
  EV.laid0 (F := .node 0 0 x.h x.l .nil) (ERow.one (h1.later (alloc_below _ _))) (new_range w (xcells x u).toArray t) 1
theorem laid3 {w : World} {x y z : X} {u v s : Value} (t : TypeId) (h1 : EV w 0 x.l u) (h2 : EV w 0 y.l v) (h3 : EV w 0 z.l s) : EV (w.alloc (.cells (xcells x u ++ (xcells y v ++ xcells z s)).toArray t)) 0 (.node 0 0 x.h x.l (.node 0 0 y.h y.l (.node 0 0 z.h z.l .nil))) (.slice (some ⟨w.heap.size, 0, Option.none⟩) 3 3) :=
  EV.laid0 (F := .node 0 0 x.h x.l (.node 0 0 y.h y.l (.node 0 0 z.h z.l .nil))) ((ERow.one (h1.later (alloc_below _ _))).app (P := .node 0 0 x.h x.l .nil) ((ERow.one (h2.later (alloc_below _ _))).app (P := .node 0 0 y.h y.l .nil) (ERow.one (h3.later (alloc_below _ _))))) (new_range w (xcells x u ++ (xcells y v ++ xcells z s)).toArray t) 3
/-- A statement in its box. -/
structure Bxs (w0 w : World) (N : Nat) (h : SH) (l : SF) (v1 v2 v3 v4 v : Value) : Prop where
  rg : w.rangeAt N 0 (scells h v1 v2 v3 v4 v)
  hv : HV w 0 h v1 v2 v3 v4
  sv : SV w 0 l v
  low : Below w0.heap.size w0 w
theorem Bxs.later {w0 w w' : World} {N : Nat} {h : SH} {l : SF} {v1 v2 v3 v4 v : Value} (t : Bxs w0 w N h l v1 v2 v3 v4 v) (hb : Below w.heap.size w w') : Bxs w0 w' N h l v1 v2 v3 v4 v :=
  ⟨rangeAt_later t.rg hb, t.hv.later hb, t.sv.later hb, t.low.trans (hb.mono t.low.size)⟩
theorem Bxs.start {w : World} {h : SH} {l : SF} {v1 v2 v3 v4 v : Value} (t : TypeId) (ha : HV w 0 h v1 v2 v3 v4) (hl : SV w 0 l v) : Bxs w (w.alloc (.cells (sarr h v1 v2 v3 v4 v) t)) w.heap.size h l v1 v2 v3 v4 v :=
  ⟨new_range w (sarr h v1 v2 v3 v4 v) t, ha.later (alloc_below _ _), hl.later (alloc_below _ _), alloc_below _ _⟩
set_option maxHeartbeats 4000000 in
set_option maxRecDepth 100000 in
theorem told_1 (d : Nat) (hd : d ≤ 100) (h : SH) (l : SF) (hk : h.k = 1) (h9 : small9 h)
    
    (w : World) (v1 v2 v3 v4 v : Value) (hv : HV w 0 h v1 v2 v3 v4) (hl : SV w 0 l v) :
    Calls Tryz.prog 138 #[sagg h v1 v2 v3 v4 v, .int .i64 (d : Int)] w fun e w' => e = .returned (.bool (toldSt d h l)) ∧ Below w.heap.size w w' := by
  have T0 := Lib.hid (Bxs.start 98 hv hl)
  obtain ⟨va1, vc1, rfl⟩ := hv.e1.shape
  obtain ⟨va2, vc2, rfl⟩ := hv.e2.shape
  obtain ⟨va3, vc3, rfl⟩ := hv.e3.shape
  obtain ⟨va4, vc4, rfl⟩ := hv.e4.shape
  obtain ⟨va, vc, rfl⟩ := hl.shape
  have H9 := Lib.hid h9
  have HK := Lib.hid hk
  have hdI : (d : Int) ≤ 100 := by omega
  obtain ⟨tn, htn⟩ : ∃ t, (nameOk h.s.data.toList) = t := ⟨_, rfl⟩
  obtain ⟨te, hte⟩ : ∃ t, (expOk h.x2) = t := ⟨_, rfl⟩
  obtain ⟨tz, htz⟩ : ∃ t, (noX h.x1 && (noX h.x3 && noX h.x4)) = t := ⟨_, rfl⟩
  have HH : Hid ((nameOk h.s.data.toList) = tn ∧ (expOk h.x2) = te ∧ (noX h.x1 && (noX h.x3 && noX h.x4)) = tz) := ⟨htn, hte, htz⟩
  have HT : Hid (toldSt d h l = ((tn && (te && tz)) && (decide (slen l = 0)))) := show toldSt d h l = _ by
    have e1 : headOk h = (tn && (te && tz)) := by rw [← htn, ← hte, ← htz]; simp [headOk, hk, Bool.and_assoc]
    unfold toldSt; rw [e1]; simp [hk]
  clear htn hte htz hv hl h9
  have e1 : (h.k == 1) = true := by rw [hk]; rfl
  have e2 : (h.k == 2) = false := by rw [hk]; rfl
  have e3 : (h.k == 3) = false := by rw [hk]; rfl
  have e4 : (h.k == 4) = false := by rw [hk]; rfl
  clear hk
  go_enter Tryz.func138, Tryz.ntmps138
  go_wp2_with fail
  refine (impl_NameOk h.s tn HH.out.1 _).mono ?_
  rintro e w1 ⟨rfl, hb1⟩
  have T1 := Lib.hid (T0.out.later hb1)
  clear hb1 T0
  cases tn with
  | false =>
    go_wp2
    go_ret
    exact retB (by rw [HT.out]; rfl) T1.out.low
  | true =>
  have c20 := part2 T1.out.rg 0 _ rfl
  have c21 := part2 T1.out.rg 1 _ rfl
  have c22 := part2 T1.out.rg 2 _ rfl
  have c23 := part2 T1.out.rg 3 _ rfl
  simp only [Nat.add_zero, Nat.reduceAdd] at c20 c21 c22 c23
  go_wp2_with fail
  have V1 := laid1 43 T1.out.hv.e2
  have h2q : enodes (.node 0 0 h.x2.h h.x2.l .nil : EF) ≤ 9000000 := by have := H9.out; simp only [small9] at this; simp only [enodes]; omega
  refine (expsOk_is _ h2q _ _ V1).mono ?_
  rintro e w2 ⟨rfl, hb2⟩
  rw [show eall (.node 0 0 h.x2.h h.x2.l .nil : EF) = te by rw [← HH.out.2.1]; simp [eall]]
  have T2 := Lib.hid ((T1.out.later (alloc_below _ _)).later hb2)
  clear hb2 T1 V1 h2q c20 c21 c22 c23
  cases te with
  | false =>
    go_wp2
    go_ret
    exact retB (by rw [HT.out]; rfl) T2.out.low
  | true =>
  have c10 := part1 T2.out.rg 0 _ rfl
  have c11 := part1 T2.out.rg 1 _ rfl
  have c12 := part1 T2.out.rg 2 _ rfl
  have c13 := part1 T2.out.rg 3 _ rfl
  have c30 := part3 T2.out.rg 0 _ rfl
  have c31 := part3 T2.out.rg 1 _ rfl
  have c32 := part3 T2.out.rg 2 _ rfl
  have c33 := part3 T2.out.rg 3 _ rfl
  have c40 := part4 T2.out.rg 0 _ rfl
  have c41 := part4 T2.out.rg 1 _ rfl
  have c42 := part4 T2.out.rg 2 _ rfl
  have c43 := part4 T2.out.rg 3 _ rfl
  simp only [Nat.add_zero, Nat.reduceAdd] at c10 c11 c12 c13 c30 c31 c32 c33 c40 c41 c42 c43
  go_wp2_with fail
  have V2 := laid3 43 T2.out.hv.e1 T2.out.hv.e3 T2.out.hv.e4
  refine (noExps_is _ (by simp [elen]) _ _ V2).mono ?_
  rintro e w3 ⟨rfl, hb3⟩
  rw [show enone (.node 0 0 h.x1.h h.x1.l (.node 0 0 h.x3.h h.x3.l (.node 0 0 h.x4.h h.x4.l .nil)) : EF) = tz by rw [← HH.out.2.2]; simp [enone]]
  have T3 := Lib.hid ((T2.out.later (alloc_below _ _)).later hb3)
  clear hb3 T2 V2 c10 c11 c12 c13 c30 c31 c32 c33 c40 c41 c42 c43
  cases tz with
  | false =>
    go_wp2
    go_ret
    exact retB (by rw [HT.out]; rfl) T3.out.low
  | true =>
  have c18 := part5 T3.out.rg
  by_cases hz : slen l = 0
  · have h1 : ((slen l : Int) == 0) = true := by rw [beq_iff_eq]; omega
    have Hz := Lib.hid hz
    clear hz
    go_wp2
    go_ret
    exact retB (by rw [HT.out, decide_eq_true Hz.out]; rfl) T3.out.low
  · have h1 : ((slen l : Int) == 0) = false := int_ne (by omega)
    have Hz := Lib.hid hz
    clear hz
    go_wp2
    go_ret
    exact retB (by rw [HT.out, decide_eq_false Hz.out]; rfl) T3.out.low
set_option maxHeartbeats 4000000 in
set_option maxRecDepth 100000 in
theorem told_2 (d : Nat) (hd : d ≤ 100) (h : SH) (l : SF) (hk : h.k = 2) (h9 : small9 h)
    
    (w : World) (v1 v2 v3 v4 v : Value) (hv : HV w 0 h v1 v2 v3 v4) (hl : SV w 0 l v) :
    Calls Tryz.prog 138 #[sagg h v1 v2 v3 v4 v, .int .i64 (d : Int)] w fun e w' => e = .returned (.bool (toldSt d h l)) ∧ Below w.heap.size w w' := by
  have T0 := Lib.hid (Bxs.start 98 hv hl)
  obtain ⟨va1, vc1, rfl⟩ := hv.e1.shape
  obtain ⟨va2, vc2, rfl⟩ := hv.e2.shape
  obtain ⟨va3, vc3, rfl⟩ := hv.e3.shape
  obtain ⟨va4, vc4, rfl⟩ := hv.e4.shape
  obtain ⟨va, vc, rfl⟩ := hl.shape
  have H9 := Lib.hid h9
  have HK := Lib.hid hk
  have hdI : (d : Int) ≤ 100 := by omega
  obtain ⟨tn, htn⟩ : ∃ t, (nameOk h.s.data.toList) = t := ⟨_, rfl⟩
  obtain ⟨te, hte⟩ : ∃ t, (expOk h.x1 && expOk h.x2) = t := ⟨_, rfl⟩
  obtain ⟨tz, htz⟩ : ∃ t, (noX h.x3 && noX h.x4) = t := ⟨_, rfl⟩
  have HH : Hid ((nameOk h.s.data.toList) = tn ∧ (expOk h.x1 && expOk h.x2) = te ∧ (noX h.x3 && noX h.x4) = tz) := ⟨htn, hte, htz⟩
  have HT : Hid (toldSt d h l = ((tn && (te && tz)) && (decide (slen l = 0)))) := show toldSt d h l = _ by
    have e1 : headOk h = (tn && (te && tz)) := by rw [← htn, ← hte, ← htz]; simp [headOk, hk, Bool.and_assoc]
    unfold toldSt; rw [e1]; simp [hk]
  clear htn hte htz hv hl h9
  have e1 : (h.k == 1) = false := by rw [hk]; rfl
  have e2 : (h.k == 2) = true := by rw [hk]; rfl
  have e3 : (h.k == 3) = false := by rw [hk]; rfl
  have e4 : (h.k == 4) = false := by rw [hk]; rfl
  clear hk
  go_enter Tryz.func138, Tryz.ntmps138
  go_wp2_with fail
  refine (impl_NameOk h.s tn HH.out.1 _).mono ?_
  rintro e w1 ⟨rfl, hb1⟩
  have T1 := Lib.hid (T0.out.later hb1)
  clear hb1 T0
  cases tn with
  | false =>
    go_wp2
    go_ret
    exact retB (by rw [HT.out]; rfl) T1.out.low
  | true =>
  have c10 := part1 T1.out.rg 0 _ rfl
  have c11 := part1 T1.out.rg 1 _ rfl
  have c12 := part1 T1.out.rg 2 _ rfl
  have c13 := part1 T1.out.rg 3 _ rfl
  have c20 := part2 T1.out.rg 0 _ rfl
  have c21 := part2 T1.out.rg 1 _ rfl
  have c22 := part2 T1.out.rg 2 _ rfl
  have c23 := part2 T1.out.rg 3 _ rfl
  simp only [Nat.add_zero, Nat.reduceAdd] at c10 c11 c12 c13 c20 c21 c22 c23
  go_wp2_with fail
  have V1 := laid2 43 T1.out.hv.e1 T1.out.hv.e2
  have h2q : enodes (.node 0 0 h.x1.h h.x1.l (.node 0 0 h.x2.h h.x2.l .nil) : EF) ≤ 9000000 := by have := H9.out; simp only [small9] at this; simp only [enodes]; omega
  refine (expsOk_is _ h2q _ _ V1).mono ?_
  rintro e w2 ⟨rfl, hb2⟩
  rw [show eall (.node 0 0 h.x1.h h.x1.l (.node 0 0 h.x2.h h.x2.l .nil) : EF) = te by rw [← HH.out.2.1]; simp [eall]]
  have T2 := Lib.hid ((T1.out.later (alloc_below _ _)).later hb2)
  clear hb2 T1 V1 h2q c10 c11 c12 c13 c20 c21 c22 c23
  cases te with
  | false =>
    go_wp2
    go_ret
    exact retB (by rw [HT.out]; rfl) T2.out.low
  | true =>
  have c30 := part3 T2.out.rg 0 _ rfl
  have c31 := part3 T2.out.rg 1 _ rfl
  have c32 := part3 T2.out.rg 2 _ rfl
  have c33 := part3 T2.out.rg 3 _ rfl
  have c40 := part4 T2.out.rg 0 _ rfl
  have c41 := part4 T2.out.rg 1 _ rfl
  have c42 := part4 T2.out.rg 2 _ rfl
  have c43 := part4 T2.out.rg 3 _ rfl
  simp only [Nat.add_zero, Nat.reduceAdd] at c30 c31 c32 c33 c40 c41 c42 c43
  go_wp2_with fail
  have V2 := laid2 43 T2.out.hv.e3 T2.out.hv.e4
  refine (noExps_is _ (by simp [elen]) _ _ V2).mono ?_
  rintro e w3 ⟨rfl, hb3⟩
  rw [show enone (.node 0 0 h.x3.h h.x3.l (.node 0 0 h.x4.h h.x4.l .nil) : EF) = tz by rw [← HH.out.2.2]; simp [enone]]
  have T3 := Lib.hid ((T2.out.later (alloc_below _ _)).later hb3)
  clear hb3 T2 V2 c30 c31 c32 c33 c40 c41 c42 c43
  cases tz with
  | false =>
    go_wp2
    go_ret
    exact retB (by rw [HT.out]; rfl) T3.out.low
  | true =>
  have c18 := part5 T3.out.rg
  by_cases hz : slen l = 0
  · have h1 : ((slen l : Int) == 0) = true := by rw [beq_iff_eq]; omega
    have Hz := Lib.hid hz
    clear hz
    go_wp2
    go_ret
    exact retB (by rw [HT.out, decide_eq_true Hz.out]; rfl) T3.out.low
  · have h1 : ((slen l : Int) == 0) = false := int_ne (by omega)
    have Hz := Lib.hid hz
    clear hz
    go_wp2
    go_ret
    exact retB (by rw [HT.out, decide_eq_false Hz.out]; rfl) T3.out.low
set_option maxHeartbeats 4000000 in
set_option maxRecDepth 100000 in
theorem told_3 (d : Nat) (hd : d ≤ 100) (h : SH) (l : SF) (hk : h.k = 3) (h9 : small9 h)
    (ih : ∀ (w : World) (v : Value), SV w 0 l v → Calls Tryz.prog 161 #[v, .int .i64 ((d : Int) - 1)] w fun e w' => e = .returned (.bool (bodyTold (d - 1) l)) ∧ Below w.heap.size w w') (hd1 : 1 ≤ d)
    (w : World) (v1 v2 v3 v4 v : Value) (hv : HV w 0 h v1 v2 v3 v4) (hl : SV w 0 l v) :
    Calls Tryz.prog 138 #[sagg h v1 v2 v3 v4 v, .int .i64 (d : Int)] w fun e w' => e = .returned (.bool (toldSt d h l)) ∧ Below w.heap.size w w' := by
  have T0 := Lib.hid (Bxs.start 98 hv hl)
  obtain ⟨va1, vc1, rfl⟩ := hv.e1.shape
  obtain ⟨va2, vc2, rfl⟩ := hv.e2.shape
  obtain ⟨va3, vc3, rfl⟩ := hv.e3.shape
  obtain ⟨va4, vc4, rfl⟩ := hv.e4.shape
  obtain ⟨va, vc, rfl⟩ := hl.shape
  have H9 := Lib.hid h9
  have HK := Lib.hid hk
  have hdI : (d : Int) ≤ 100 := by omega
  have Hih := Lib.hid ih
  have hd0 : (0 : Int) < (d : Int) := by omega
  have Hd1 := Lib.hid hd1
  clear ih hd1
  obtain ⟨tn, htn⟩ : ∃ t, (nameOk h.s.data.toList) = t := ⟨_, rfl⟩
  obtain ⟨te, hte⟩ : ∃ t, (expOk h.x3 && expOk h.x4) = t := ⟨_, rfl⟩
  obtain ⟨tz, htz⟩ : ∃ t, (noX h.x1 && noX h.x2) = t := ⟨_, rfl⟩
  have HH : Hid ((nameOk h.s.data.toList) = tn ∧ (expOk h.x3 && expOk h.x4) = te ∧ (noX h.x1 && noX h.x2) = tz) := ⟨htn, hte, htz⟩
  have hdd : 1 ≤ d := Hd1.out
  have HT : Hid (toldSt d h l = ((tn && (te && tz)) && (bodyTold (d - 1) l))) := show toldSt d h l = _ by
    have e1 : headOk h = (tn && (te && tz)) := by rw [← htn, ← hte, ← htz]; simp [headOk, hk, Bool.and_assoc]
    unfold toldSt; rw [e1]; simp [hk, hdd]
  clear htn hte htz hv hl h9 hdd
  have e1 : (h.k == 1) = false := by rw [hk]; rfl
  have e2 : (h.k == 2) = false := by rw [hk]; rfl
  have e3 : (h.k == 3) = true := by rw [hk]; rfl
  have e4 : (h.k == 4) = false := by rw [hk]; rfl
  clear hk
  go_enter Tryz.func138, Tryz.ntmps138
  go_wp2_with fail
  refine (impl_NameOk h.s tn HH.out.1 _).mono ?_
  rintro e w1 ⟨rfl, hb1⟩
  have T1 := Lib.hid (T0.out.later hb1)
  clear hb1 T0
  cases tn with
  | false =>
    go_wp2
    go_ret
    exact retB (by rw [HT.out]; rfl) T1.out.low
  | true =>
  have c30 := part3 T1.out.rg 0 _ rfl
  have c31 := part3 T1.out.rg 1 _ rfl
  have c32 := part3 T1.out.rg 2 _ rfl
  have c33 := part3 T1.out.rg 3 _ rfl
  have c40 := part4 T1.out.rg 0 _ rfl
  have c41 := part4 T1.out.rg 1 _ rfl
  have c42 := part4 T1.out.rg 2 _ rfl
  have c43 := part4 T1.out.rg 3 _ rfl
  simp only [Nat.add_zero, Nat.reduceAdd] at c30 c31 c32 c33 c40 c41 c42 c43
  go_wp2_with fail
  have V1 := laid2 43 T1.out.hv.e3 T1.out.hv.e4
  have h2q : enodes (.node 0 0 h.x3.h h.x3.l (.node 0 0 h.x4.h h.x4.l .nil) : EF) ≤ 9000000 := by have := H9.out; simp only [small9] at this; simp only [enodes]; omega
  refine (expsOk_is _ h2q _ _ V1).mono ?_
  rintro e w2 ⟨rfl, hb2⟩
  rw [show eall (.node 0 0 h.x3.h h.x3.l (.node 0 0 h.x4.h h.x4.l .nil) : EF) = te by rw [← HH.out.2.1]; simp [eall]]
  have T2 := Lib.hid ((T1.out.later (alloc_below _ _)).later hb2)
  clear hb2 T1 V1 h2q c30 c31 c32 c33 c40 c41 c42 c43
  cases te with
  | false =>
    go_wp2
    go_ret
    exact retB (by rw [HT.out]; rfl) T2.out.low
  | true =>
  have c10 := part1 T2.out.rg 0 _ rfl
  have c11 := part1 T2.out.rg 1 _ rfl
  have c12 := part1 T2.out.rg 2 _ rfl
  have c13 := part1 T2.out.rg 3 _ rfl
  have c20 := part2 T2.out.rg 0 _ rfl
  have c21 := part2 T2.out.rg 1 _ rfl
  have c22 := part2 T2.out.rg 2 _ rfl
  have c23 := part2 T2.out.rg 3 _ rfl
  simp only [Nat.add_zero, Nat.reduceAdd] at c10 c11 c12 c13 c20 c21 c22 c23
  go_wp2_with fail
  have V2 := laid2 43 T2.out.hv.e1 T2.out.hv.e2
  refine (noExps_is _ (by simp [elen]) _ _ V2).mono ?_
  rintro e w3 ⟨rfl, hb3⟩
  rw [show enone (.node 0 0 h.x1.h h.x1.l (.node 0 0 h.x2.h h.x2.l .nil) : EF) = tz by rw [← HH.out.2.2]; simp [enone]]
  have T3 := Lib.hid ((T2.out.later (alloc_below _ _)).later hb3)
  clear hb3 T2 V2 c10 c11 c12 c13 c20 c21 c22 c23
  cases tz with
  | false =>
    go_wp2
    go_ret
    exact retB (by rw [HT.out]; rfl) T3.out.low
  | true =>
  have c18 := part5 T3.out.rg
  go_wp2_with fail
  refine (Hih.out _ _ T3.out.sv).mono ?_
  rintro e w4 ⟨rfl, hb4⟩
  have T4 := Lib.hid (T3.out.later hb4)
  clear hb4 T3 c18
  go_wp2
  go_ret
  exact retB (by rw [HT.out]; rfl) T4.out.low
end Go.Proofs.YtpinockfakndlaaGreat
/-
  The contract of stmtAsTold at what prints.
-/
namespace Go.Proofs.YtpinockfakndlaaGreat
open Go.RowKit Go.Lib
set_option linter.unusedSimpArgs false
set_option linter.unusedVariables false

set_option maxHeartbeats 4000000 in
set_option maxRecDepth 100000 in
theorem told_4 (d : Nat) (hd : d ≤ 100) (h : SH) (l : SF) (hk : h.k = 4) (h9 : small9 h)
    
    (w : World) (v1 v2 v3 v4 v : Value) (hv : HV w 0 h v1 v2 v3 v4) (hl : SV w 0 l v) :
    Calls Tryz.prog 138 #[sagg h v1 v2 v3 v4 v, .int .i64 (d : Int)] w fun e w' => e = .returned (.bool (toldSt d h l)) ∧ Below w.heap.size w w' := by
  have T0 := Lib.hid (Bxs.start 98 hv hl)
  obtain ⟨va1, vc1, rfl⟩ := hv.e1.shape
  obtain ⟨va2, vc2, rfl⟩ := hv.e2.shape
  obtain ⟨va3, vc3, rfl⟩ := hv.e3.shape
  obtain ⟨va4, vc4, rfl⟩ := hv.e4.shape
  obtain ⟨va, vc, rfl⟩ := hl.shape
  have H9 := Lib.hid h9
  have HK := Lib.hid hk
  have hdI : (d : Int) ≤ 100 := by omega
  obtain ⟨tn, htn⟩ : ∃ t, (decide (h.s.size = 0)) = t := ⟨_, rfl⟩
  obtain ⟨te, hte⟩ : ∃ t, (expOk h.x2) = t := ⟨_, rfl⟩
  obtain ⟨tz, htz⟩ : ∃ t, (noX h.x1 && (noX h.x3 && noX h.x4)) = t := ⟨_, rfl⟩
  have HH : Hid ((decide (h.s.size = 0)) = tn ∧ (expOk h.x2) = te ∧ (noX h.x1 && (noX h.x3 && noX h.x4)) = tz) := ⟨htn, hte, htz⟩
  have HT : Hid (toldSt d h l = ((tn && (te && tz)) && (decide (slen l = 0)))) := show toldSt d h l = _ by
    have e1 : headOk h = (tn && (te && tz)) := by rw [← htn, ← hte, ← htz]; simp [headOk, hk, Bool.and_assoc]
    unfold toldSt; rw [e1]; simp [hk]
  clear htn hte htz hv hl h9
  have e1 : (h.k == 1) = false := by rw [hk]; rfl
  have e2 : (h.k == 2) = false := by rw [hk]; rfl
  have e3 : (h.k == 3) = false := by rw [hk]; rfl
  have e4 : (h.k == 4) = true := by rw [hk]; rfl
  clear hk
  have T1 := T0
  cases tn with
  | false =>
    have hs := str_full (by simpa using HH.out.1)
    go_enter Tryz.func138, Tryz.ntmps138
    go_wp2
    go_ret
    exact retB (by rw [HT.out]; rfl) T1.out.low
  | true =>
  have hs := str_empty (by simpa using HH.out.1)
  go_enter Tryz.func138, Tryz.ntmps138
  go_wp2_with fail
  have V1 := laid1 43 T1.out.hv.e2
  have hsz : (w.alloc (.cells (sarr h (.slice va1 (elen h.x1.l) vc1) (.slice va2 (elen h.x2.l) vc2) (.slice va3 (elen h.x3.l) vc3) (.slice va4 (elen h.x4.l) vc4) (.slice va (slen l) vc)) 98)).heap.size = w.heap.size + 1 := by simp
  rw [hsz] at V1
  clear hsz
  have h2q : enodes (.node 0 0 h.x2.h h.x2.l .nil : EF) ≤ 9000000 := by have := H9.out; simp only [small9] at this; simp only [enodes]; omega
  refine (expsOk_is _ h2q _ _ V1).mono ?_
  rintro e w2 ⟨rfl, hb2⟩
  rw [show eall (.node 0 0 h.x2.h h.x2.l .nil : EF) = te by rw [← HH.out.2.1]; simp [eall]]
  have T2 := Lib.hid ((T1.out.later (alloc_below _ _)).later hb2)
  clear hb2 T1 V1 h2q 
  cases te with
  | false =>
    go_wp2
    go_ret
    exact retB (by rw [HT.out]; rfl) T2.out.low
  | true =>
  have c10 := part1 T2.out.rg 0 _ rfl
  have c11 := part1 T2.out.rg 1 _ rfl
  have c12 := part1 T2.out.rg 2 _ rfl
  have c13 := part1 T2.out.rg 3 _ rfl
  have c30 := part3 T2.out.rg 0 _ rfl
  have c31 := part3 T2.out.rg 1 _ rfl
  have c32 := part3 T2.out.rg 2 _ rfl
  have c33 := part3 T2.out.rg 3 _ rfl
  have c40 := part4 T2.out.rg 0 _ rfl
  have c41 := part4 T2.out.rg 1 _ rfl
  have c42 := part4 T2.out.rg 2 _ rfl
  have c43 := part4 T2.out.rg 3 _ rfl
  simp only [Nat.add_zero, Nat.reduceAdd] at c10 c11 c12 c13 c30 c31 c32 c33 c40 c41 c42 c43
  go_wp2_with fail
  have V2 := laid3 43 T2.out.hv.e1 T2.out.hv.e3 T2.out.hv.e4
  refine (noExps_is _ (by simp [elen]) _ _ V2).mono ?_
  rintro e w3 ⟨rfl, hb3⟩
  rw [show enone (.node 0 0 h.x1.h h.x1.l (.node 0 0 h.x3.h h.x3.l (.node 0 0 h.x4.h h.x4.l .nil)) : EF) = tz by rw [← HH.out.2.2]; simp [enone]]
  have T3 := Lib.hid ((T2.out.later (alloc_below _ _)).later hb3)
  clear hb3 T2 V2 c10 c11 c12 c13 c30 c31 c32 c33 c40 c41 c42 c43
  cases tz with
  | false =>
    go_wp2
    go_ret
    exact retB (by rw [HT.out]; rfl) T3.out.low
  | true =>
  have c18 := part5 T3.out.rg
  by_cases hz : slen l = 0
  · have h1 : ((slen l : Int) == 0) = true := by rw [beq_iff_eq]; omega
    have Hz := Lib.hid hz
    clear hz
    go_wp2
    go_ret
    exact retB (by rw [HT.out, decide_eq_true Hz.out]; rfl) T3.out.low
  · have h1 : ((slen l : Int) == 0) = false := int_ne (by omega)
    have Hz := Lib.hid hz
    clear hz
    go_wp2
    go_ret
    exact retB (by rw [HT.out, decide_eq_false Hz.out]; rfl) T3.out.low
end Go.Proofs.YtpinockfakndlaaGreat
