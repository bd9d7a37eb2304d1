import Derived.Test.YtpinockfakndlaaGreatZp
import Derived.Test.YtpinockfakndlaaGreatP22ofFnEvals
import Derived.Test.YtpinockfakndlaaGreatP06ofFnEvals
import Derived.Test.YtpinockfakndlaaGreatP10ofFnEvals
import Derived.Test.YtpinockfakndlaaGreatP20ofFnEvals
namespace Go.Proofs.YtpinockfakndlaaGreat
open Go.RowKit Go.Lib
set_option maxRecDepth 100000
set_option maxHeartbeats 2000000
set_option linter.unusedSimpArgs false
set_option linter.unusedVariables false
theorem all_drop {α : Type} {p : α → Bool} {l : List α} {k : Nat} {x : α} (hx : l[k]? = some x) : (l.drop k).all p = (p x && (l.drop (k + 1)).all p) := by
  have hlt : k < l.length := (List.getElem?_eq_some_iff.1 hx).1
  rw [List.drop_eq_getElem_cons hlt, List.all_cons]
  have e : l[k] = x := (List.getElem?_eq_some_iff.1 hx).2
  rw [e]
theorem and_t {a b r : Bool} (h : (a && b) = r) (ha : a = true) : b = r := by rw [ha, Bool.true_and] at h; exact h
theorem and_f {a b r : Bool} (h : (a && b) = r) (ha : a = false) : r = false := by rw [ha, Bool.false_and] at h; exact h.symm
theorem all_end {α : Type} {p : α → Bool} {l : List α} {k : Nat} {r : Bool} (h : (l.drop k).all p = r) (hk : l.length ≤ k) : r = true := by rw [List.drop_of_length_le hk] at h; exact h.symm
theorem not_false {b : Bool} (h : (!b) = false) : b = true := by cases b <;> simp_all
theorem not_true' {b : Bool} (h : (!b) = true) : b = false := by cases b <;> simp_all
theorem TV.cells {w : World} {v : Value} {ns : List ByteArray} (h : TV w 0 v ns) {k : Nat} {x : ByteArray} (hx : ns[k]? = some x) : ∃ g off c, v = .slice (some ⟨g, off, Option.none⟩) ns.length c ∧ w.cell? ⟨g, off + k, Option.none⟩ = some (.string x) := by
  obtain ⟨ao, cap, rfl, h⟩ := h
  rcases h with h | ⟨g, off, rfl, _, _, h⟩
  · subst h; simp at hx
  · exact ⟨g, off, cap, rfl, h k x hx⟩
theorem has_is (ns : List ByteArray) (hn : ns.length ≤ 10000000) (s : ByteArray) (b : Bool) (hb : ns.all (fun t => !decide (t = s)) = !b) (v : Value) (w : World) (hv : TV w 0 v ns) :
    Calls Tryz.prog 118 #[v, .string s] w fun e w' => e = .returned (.bool b) ∧ w = w' := by
  have Hv := hid hv
  obtain ⟨ao, cap, rfl⟩ := hv.shape
  have Hb : Hid ((ns.drop 0).all (fun t => !decide (t = s)) = !b) := by rw [List.drop_zero]; exact hb
  clear hv hb
  go_enter Tryz.func118, Tryz.ntmps118
  go_wp2
  go_loop [5] (fun i => ∃ k : Nat, k ≤ ns.length ∧ i = .int .i64 k ∧ Hid ((ns.drop k).all (fun t => !decide (t = s)) = !b)) (fun i => ns.length - (RowKit.intOf i).toNat)
  case atStart => exact ⟨0, by omega, rfl, Hb⟩
  case round =>
    obtain ⟨k, hk, rfl, hall⟩ := hrel
    clear Hb
    by_cases hlt : k < ns.length
    · have hltI : (k : Int) < (ns.length : Int) := by omega
      obtain ⟨x, hx⟩ : ∃ x, ns[k]? = some x := ⟨ns[k], List.getElem?_eq_getElem hlt⟩
      obtain ⟨g, off, c, hvv, hcell⟩ := Hv.out.cells hx
      injection hvv with e1 e2 e3
      subst e1
      have hd : Hid ((!decide (x = s) && (ns.drop (k + 1)).all (fun t => !decide (t = s))) = !b) := by rw [← all_drop (p := fun t => !decide (t = s)) hx]; exact hall.out
      clear hx hall Hv e2 e3
      by_cases he : x = s
      · have h1 := hid (not_false (and_f hd.out (by rw [decide_eq_true he]; rfl)))
        subst he
        clear hd
        go_wp2
        go_ret
        exact ⟨ret_bool h1.out.symm, rfl⟩
      · have h1 := hid (and_t hd.out (by rw [decide_eq_false he]; rfl))
        have hne := str_ne he
        clear hd
        go_wp2
        go_round
        case rel => exact ⟨k + 1, by omega, by go_num, h1⟩
        case measure => simp [RowKit.intOf]; omega
    · have h1 := hid (not_true' (all_end hall.out (by omega)))
      go_wp2
      go_ret
      exact ⟨ret_bool h1.out.symm, rfl⟩
def apart (a b : List ByteArray) : Bool := a.all (fun s => b.all (fun t => !decide (t = s)))
theorem l4Apart_is (xs bs : List ByteArray) (hna : xs.length ≤ 10000000) (hnb : bs.length ≤ 10000000) (r : Bool) (hr : apart xs bs = r) (va vb : Value) (w : World) (ha : TV w 0 va xs) (hb : TV w 0 vb bs) :
    Calls Tryz.prog 67 #[va, vb] w fun e w' => e = .returned (.bool r) ∧ w = w' := by
  have Hv := hid ha
  have Hw := hid hb
  obtain ⟨ao, cap, rfl⟩ := ha.shape
  obtain ⟨bo, bcap, rfl⟩ := hb.shape
  have Hr : Hid ((xs.drop 0).all (fun s => bs.all (fun t => !decide (t = s))) = r) := by rw [List.drop_zero]; exact hr
  clear ha hb hr
  go_enter Tryz.func67, Tryz.ntmps67
  go_wp2
  go_loop [5] (fun i => ∃ k : Nat, k ≤ xs.length ∧ i = .int .i64 k ∧ Hid ((xs.drop k).all (fun s => bs.all (fun t => !decide (t = s))) = r)) (fun i => xs.length - (RowKit.intOf i).toNat)
  case atStart => exact ⟨0, by omega, rfl, Hr⟩
  case round =>
    obtain ⟨k, hk, rfl, hall⟩ := hrel
    clear Hr
    by_cases hlt : k < xs.length
    · have hltI : (k : Int) < (xs.length : Int) := by omega
      obtain ⟨x, hx⟩ : ∃ x, xs[k]? = some x := ⟨xs[k], List.getElem?_eq_getElem hlt⟩
      obtain ⟨g, off, c, hvv, hcell⟩ := Hv.out.cells hx
      injection hvv with e1 e2 e3
      subst e1
      have hd : Hid ((bs.all (fun t => !decide (t = x)) && (xs.drop (k + 1)).all (fun s => bs.all (fun t => !decide (t = s)))) = r) := by rw [← all_drop (p := fun s => bs.all (fun t => !decide (t = s))) hx]; exact hall.out
      clear hx hall Hv e2 e3
      cases hq : bs.all (fun t => !decide (t = x)) with
      | false =>
        have h1 := hid (and_f hd.out hq)
        have C := hid (has_is bs hnb x true (by rw [hq]; rfl) _ w Hw.out)
        clear hd hq
        go_wp2_with fail
        refine C.out.mono ?_
        rintro e w' ⟨rfl, rfl⟩
        go_wp2
        go_ret
        exact ⟨ret_bool h1.out.symm, rfl⟩
      | true =>
        have h1 := hid (and_t hd.out hq)
        have C := hid (has_is bs hnb x false (by rw [hq]; rfl) _ w Hw.out)
        clear hd hq
        go_wp2_with fail
        refine C.out.mono ?_
        rintro e w' ⟨rfl, rfl⟩
        go_wp2
        go_round
        case rel => exact ⟨k + 1, by omega, by go_num, h1⟩
        case measure => simp [RowKit.intOf]; omega
    · have h1 := hid (all_end hall.out (by omega))
      go_wp2
      go_ret
      exact ⟨ret_bool h1.out.symm, rfl⟩
def allArrs (ts : List AR) (ns : List ByteArray) : Bool := ns.all (fun s => decide (0 ≤ arrGo ts 0 s))
theorem l4Arrs_is (ts : List AR) (hn : ts.length ≤ 1048576) (ns : List ByteArray) (hnn : ns.length ≤ 10000000) (r : Bool) (hr : allArrs ts ns = r) (va vb vl : Value) (hvb : vb.oneCell' = true) (w : World) (ha : AV w 0 va ts) (hl : TV w 0 vl ns) :
    Calls Tryz.prog 65 #[.agg #[va, vb], vl] w fun e w' => e = .returned (.bool r) ∧ Below w.heap.size w w' := by
  have Hv := hid hl
  have Ha := hid ha
  obtain ⟨ao, cap, rfl⟩ := ha.shape
  obtain ⟨lo, lcap, rfl⟩ := hl.shape
  have B := hid (aB w (.cells #[.slice ao ts.length cap, vb] 27))
  have R : Hid ((w.alloc (.cells #[.slice ao ts.length cap, vb] 27)).rangeAt w.heap.size 0 [.slice ao ts.length cap, vb]) := blk_range (arr := #[.slice ao ts.length cap, vb]) (heap_last _ _)
  have Hr : Hid ((ns.drop 0).all (fun s => decide (0 ≤ arrGo ts 0 s)) = r) := by rw [List.drop_zero]; exact hr
  clear ha hl hr
  go_enter Tryz.func65, Tryz.ntmps65
  go_wp2
  go_loopw [5] (fun i wr => ∃ k : Nat, k ≤ ns.length ∧ i = .int .i64 k ∧ Hid ((ns.drop k).all (fun s => decide (0 ≤ arrGo ts 0 s)) = r) ∧ Hid (Below w.heap.size w wr) ∧ Hid (wr.rangeAt w.heap.size 0 [.slice ao ts.length cap, vb])) (fun i _ => ns.length - (RowKit.intOf i).toNat)
  case atStart => exact ⟨0, by omega, rfl, Hr, B, R⟩
  case round =>
    obtain ⟨k, hk, rfl, hall, hbr, hrg⟩ := hrel
    clear Hr B R
    by_cases hlt : k < ns.length
    · have hltI : (k : Int) < (ns.length : Int) := by omega
      obtain ⟨x, hx⟩ : ∃ x, ns[k]? = some x := ⟨ns[k], List.getElem?_eq_getElem hlt⟩
      obtain ⟨g, off, c, hvv, hcell⟩ := (Hv.out.later hbr.out).cells hx
      injection hvv with e1 e2 e3
      subst e1
      have hd : Hid ((decide (0 ≤ arrGo ts 0 x) && (ns.drop (k + 1)).all (fun s => decide (0 ≤ arrGo ts 0 s))) = r) := by rw [← all_drop (p := fun s => decide (0 ≤ arrGo ts 0 s)) hx]; exact hall.out
      have Hcell := hid hcell
      clear hx hall Hv e2 e3 hcell
      have bd : Below wr.heap.size wr wr.drew := (Below.refl _ wr).drew
      have CA : Hid (∀ (w2 : World), Below wr.heap.size wr w2 → Calls Tryz.prog 87 #[.agg #[.slice ao ts.length cap, vb], .string x] w2 fun e w' => e = .returned (.int .i64 (arrGo ts 0 x)) ∧ Below w2.heap.size w2 w') := fun w2 hb2 => spec_ArrAt ts hn x _ _ hvb w2 ((Ha.out.later hbr.out).later hb2)
      clear Ha
      by_cases hge : 0 ≤ arrGo ts 0 x
      · have h1 := hid (and_t hd.out (decide_eq_true hge))
        have hge' : ¬ arrGo ts 0 x < 0 := by omega
        clear hd
        go_wp2_with fail
        refine wp_region_held_drew (S := fun w' => w'.rangeAt w.heap.size 0 [.slice ao ts.length cap, vb] ∧ w'.cell? ⟨g, off + k, Option.none⟩ = some (.string x)) (by kernel_rfl) ⟨(World.rangeAt_drew _ _ _ _).2 hrg.out, keeps bd Hcell.out⟩ (fun hHeld => ?_)
        refine wpAnyH_take (i := 0) (v := .agg ([.slice ao ts.length cap, vb]).toArray) rfl (by kernel_rfl) (by kernel_rfl) (by kernel_rfl) (fun _ _ _ => id) (yieldsIf_load_mid (by rfl) 27 _ rfl (w.heap.size) (0) rfl ([.slice ao ts.length cap, vb]) _ (fun w h => h.1) Tryz.underlying27 rfl sizeIP) hHeld ?_
        simp only [Act.put, zp]
        refine wpAnyH_take (i := 1) (v := .slice (some ⟨g, off, Option.none⟩) ns.length lcap) rfl (by kernel_rfl) (by kernel_rfl) (by kernel_rfl) (fun _ _ _ => id) (Or.inl ⟨by rfl, ?ya1⟩) hHeld ?_
        case ya1 => intro w hSw; go_simp
        simp only [Act.put, zp]
        refine wpAnyH_take (i := 2) (v := .int .i64 (k : Int)) rfl (by kernel_rfl) (by kernel_rfl) (by kernel_rfl) (fun _ _ _ => id) (Or.inl ⟨by rfl, ?ya2⟩) hHeld ?_
        case ya2 => intro w hSw; go_simp
        simp only [Act.put, zp]
        refine wpAnyH_take (i := 3) (v := .pointer (some ⟨g, off + k, Option.none⟩)) rfl (by kernel_rfl) (by kernel_rfl) (by kernel_rfl) (fun _ _ _ => id) (Or.inl ⟨by rfl, ?ya3⟩) hHeld ?_
        case ya3 => intro w hSw; go_simp
        simp only [Act.put, zp]
        refine wpAnyH_take (i := 4) (v := .string x) rfl (by kernel_rfl) (by kernel_rfl) (by kernel_rfl) (fun _ _ _ => id) (Or.inl ⟨by rfl, ?ya4⟩) hHeld ?_
        case ya4 => intro w hSw; have q := hSw.2; go_simp
        simp only [Act.put, zp]
        refine wpAnyH_ready (rs := [5]) (by kernel_rfl) (by simp) ?_
        refine AllReadyH.cons rfl (fun K hK => ?_) AllReadyH.nil
        rw [if_pos (by rfl)]
        simp only [zq]
        go_wp2_with fail
        refine (CA.out _ bd).mono ?_
        rintro e w4 ⟨rfl, hb4⟩
        go_wp2_with fail
        refine hK.out _ _ (⟨rangeAt_later hHeld.1 hb4, keeps hb4 hHeld.2⟩) (fun hHeld => ?_)
        refine wpAnyH_take (i := 6) (v := .bool false) rfl (by kernel_rfl) (by kernel_rfl) (by kernel_rfl) (fun _ _ _ => id) (Or.inl ⟨by rfl, ?ya6⟩) hHeld ?_
        case ya6 => intro w hSw; go_simp
        simp only [Act.put, zp]
        refine wpAnyH_done (by kernel_rfl) ?_ _
        have B4 := hid (hbr.out.trans ((bd.trans (hb4.mono bd.size)).mono hbr.out.size))
        have R4 := hid hHeld.1
        clear hHeld hb4 bd Hcell hrg hbr
        go_wp2
        go_roundw
        case rel => exact ⟨k + 1, by omega, by go_num, h1, B4, R4⟩
        case measure => simp [RowKit.intOf]; omega
      · have h1 := hid (and_f hd.out (decide_eq_false hge))
        have hge' : arrGo ts 0 x < 0 := by omega
        clear hd
        go_wp2_with fail
        refine wp_region_held_drew (S := fun w' => w'.rangeAt w.heap.size 0 [.slice ao ts.length cap, vb] ∧ w'.cell? ⟨g, off + k, Option.none⟩ = some (.string x)) (by kernel_rfl) ⟨(World.rangeAt_drew _ _ _ _).2 hrg.out, keeps bd Hcell.out⟩ (fun hHeld => ?_)
        refine wpAnyH_take (i := 0) (v := .agg ([.slice ao ts.length cap, vb]).toArray) rfl (by kernel_rfl) (by kernel_rfl) (by kernel_rfl) (fun _ _ _ => id) (yieldsIf_load_mid (by rfl) 27 _ rfl (w.heap.size) (0) rfl ([.slice ao ts.length cap, vb]) _ (fun w h => h.1) Tryz.underlying27 rfl sizeIP) hHeld ?_
        simp only [Act.put, zp]
        refine wpAnyH_take (i := 1) (v := .slice (some ⟨g, off, Option.none⟩) ns.length lcap) rfl (by kernel_rfl) (by kernel_rfl) (by kernel_rfl) (fun _ _ _ => id) (Or.inl ⟨by rfl, ?yb1⟩) hHeld ?_
        case yb1 => intro w hSw; go_simp
        simp only [Act.put, zp]
        refine wpAnyH_take (i := 2) (v := .int .i64 (k : Int)) rfl (by kernel_rfl) (by kernel_rfl) (by kernel_rfl) (fun _ _ _ => id) (Or.inl ⟨by rfl, ?yb2⟩) hHeld ?_
        case yb2 => intro w hSw; go_simp
        simp only [Act.put, zp]
        refine wpAnyH_take (i := 3) (v := .pointer (some ⟨g, off + k, Option.none⟩)) rfl (by kernel_rfl) (by kernel_rfl) (by kernel_rfl) (fun _ _ _ => id) (Or.inl ⟨by rfl, ?yb3⟩) hHeld ?_
        case yb3 => intro w hSw; go_simp
        simp only [Act.put, zp]
        refine wpAnyH_take (i := 4) (v := .string x) rfl (by kernel_rfl) (by kernel_rfl) (by kernel_rfl) (fun _ _ _ => id) (Or.inl ⟨by rfl, ?yb4⟩) hHeld ?_
        case yb4 => intro w hSw; have q := hSw.2; go_simp
        simp only [Act.put, zp]
        refine wpAnyH_ready (rs := [5]) (by kernel_rfl) (by simp) ?_
        refine AllReadyH.cons rfl (fun K hK => ?_) AllReadyH.nil
        rw [if_pos (by rfl)]
        simp only [zq]
        go_wp2_with fail
        refine (CA.out _ bd).mono ?_
        rintro e w4 ⟨rfl, hb4⟩
        go_wp2_with fail
        refine hK.out _ _ (⟨rangeAt_later hHeld.1 hb4, keeps hb4 hHeld.2⟩) (fun hHeld => ?_)
        refine wpAnyH_take (i := 6) (v := .bool true) rfl (by kernel_rfl) (by kernel_rfl) (by kernel_rfl) (fun _ _ _ => id) (Or.inl ⟨by rfl, ?yb6⟩) hHeld ?_
        case yb6 => intro w hSw; go_simp
        simp only [Act.put, zp]
        refine wpAnyH_done (by kernel_rfl) ?_ _
        have B4 := hid (hbr.out.trans ((bd.trans (hb4.mono bd.size)).mono hbr.out.size))
        have R4 := hid hHeld.1
        clear hHeld hb4 bd Hcell hrg hbr
        go_wp2
        go_ret
        exact ⟨ret_bool h1.out.symm, B4.out⟩
    · have h1 := hid (all_end hall.out (by omega))
      go_wp2
      go_ret
      exact ⟨ret_bool h1.out.symm, hbr.out⟩
def zeroH : EH := ⟨0, 0, ⟨#[]⟩⟩
def noX (x : X) : Bool := hsame x.h zeroH && decide (elen x.l = 0)
theorem noX_eq (x : X) : noX x = (decide (x.h.k = 0) && decide (x.h.n = 0) && decide (x.h.s.size = 0) && decide (elen x.l = 0)) := by
  have hs : decide (x.h.s = zeroH.s) = decide (x.h.s.size = 0) := by
    apply decide_eq_decide.2
    constructor
    · intro e; rw [e]; rfl
    · intro e
      apply ByteArray.ext
      have : x.h.s.data.toList = [] := List.length_eq_zero_iff.1 (by simpa using e)
      exact Array.toList_inj.1 (by rw [this]; rfl)
  unfold noX hsame
  rw [hs]
  rfl
theorem l3No_is (x : X) (w : World) (v : Value) (hv : EV w 0 x.l v) : Calls Tryz.prog 167 #[.agg #[.int .i64 x.h.k, .int .i64 x.h.n, .string x.h.s, v]] w fun e w' => e = .returned (.bool (noX x)) ∧ Below w.heap.size w w' := by
  obtain ⟨a, c, rfl⟩ := hv.shape
  obtain ⟨⟨k, n, s⟩, l⟩ := x
  have HE := hid (noX_eq ⟨⟨k, n, s⟩, l⟩)
  clear hv
  by_cases hk : k = 0
  case neg =>
    have hf : Hid (noX ⟨⟨k, n, s⟩, l⟩ = false) := show noX _ = false by rw [HE.out]; simp [hk]
    have h1 := int_ne hk
    go_enter Tryz.func167, Tryz.ntmps167
    go_wp2
    go_ret
    exact retB hf.out (aB _ _)
  subst hk
  by_cases hn : n = 0
  case neg =>
    have hf : Hid (noX ⟨⟨0, n, s⟩, l⟩ = false) := show noX _ = false by rw [HE.out]; simp [hn]
    have h1 := int_ne hn
    go_enter Tryz.func167, Tryz.ntmps167
    go_wp2
    go_ret
    exact retB hf.out (aB _ _)
  subst hn
  by_cases hs : s.size = 0
  case neg =>
    have hf : Hid (noX ⟨⟨0, 0, s⟩, l⟩ = false) := show noX _ = false by rw [HE.out]; simp [hs]
    have h1 := str_full hs
    clear hs
    go_enter Tryz.func167, Tryz.ntmps167
    go_wp2
    go_ret
    exact retB hf.out (aB _ _)
  have h1 := str_empty hs
  by_cases hl : elen l = 0
  case neg =>
    have hf : Hid (noX ⟨⟨0, 0, s⟩, l⟩ = false) := show noX _ = false by rw [HE.out]; simp [hl]
    have h2 : ((elen l : Int) == 0) = false := int_ne (by omega)
    clear hs hl
    go_enter Tryz.func167, Tryz.ntmps167
    go_wp2
    go_ret
    exact retB hf.out (aB _ _)
  have hf : Hid (noX ⟨⟨0, 0, s⟩, l⟩ = true) := show noX _ = true by rw [HE.out]; simp [hl, hs]
  have h2 : ((elen l : Int) == 0) = true := by rw [beq_iff_eq]; omega
  clear hs hl
  go_enter Tryz.func167, Tryz.ntmps167
  go_wp2
  go_ret
  exact retB hf.out (aB _ _)
def headOk (h : SH) : Bool :=
  if h.k = 1 then nameOk h.s.data.toList && (expOk h.x2 && (noX h.x1 && (noX h.x3 && noX h.x4)))
  else if h.k = 2 then nameOk h.s.data.toList && ((expOk h.x1 && expOk h.x2) && (noX h.x3 && noX h.x4))
  else if h.k = 3 then nameOk h.s.data.toList && ((expOk h.x3 && expOk h.x4) && (noX h.x1 && noX h.x2))
  else if h.k = 4 then decide (h.s.size = 0) && (expOk h.x2 && (noX h.x1 && (noX h.x3 && noX h.x4)))
  else false
def toldS : Nat → SF → Bool
  | _, .nil => true
  | d, .node _ _ h l r => (headOk h && (if h.k = 3 then decide (1 ≤ d) && (decide (1 ≤ slen l) && (decide (slen l ≤ 6) && toldS (d - 1) l)) else decide (slen l = 0))) && toldS d r
def bodyTold (d : Nat) (l : SF) : Bool := decide (1 ≤ slen l) && (decide (slen l ≤ 6) && toldS d l)
def toldSt (d : Nat) (h : SH) (l : SF) : Bool := headOk h && (if h.k = 3 then decide (1 ≤ d) && bodyTold (d - 1) l else decide (slen l = 0))
theorem toldS_node (d p q : Nat) (h : SH) (l r : SF) : toldS d (.node p q h l r) = (toldSt d h l && toldS d r) := rfl
structure Bxs (w0 w : World) (N : Nat) (h : SH) (l : SF) (v1 v2 v3 v4 v : Value) : Prop where
  rg : w.rangeAt N 0 (scells h v1 v2 v3 v4 v)
  hv : HV w 0 h v1 v2 v3 v4
  sv : SV w 0 l v
  low : Below w0.heap.size w0 w
theorem Bxs.later {w0 w w' : World} {N : Nat} {h : SH} {l : SF} {v1 v2 v3 v4 v : Value} (t : Bxs w0 w N h l v1 v2 v3 v4 v) (hb : Below w.heap.size w w') : Bxs w0 w' N h l v1 v2 v3 v4 v :=
  ⟨rangeAt_later t.rg hb, t.hv.later hb, t.sv.later hb, t.low.trans (hb.mono t.low.size)⟩
theorem Bxs.start {w : World} {h : SH} {l : SF} {v1 v2 v3 v4 v : Value} (t : TypeId) (ha : HV w 0 h v1 v2 v3 v4) (hl : SV w 0 l v) : Bxs w (w.alloc (.cells (sarr h v1 v2 v3 v4 v) t)) w.heap.size h l v1 v2 v3 v4 v :=
  ⟨new_range w (sarr h v1 v2 v3 v4 v) t, ha.later (aB _ _), hl.later (aB _ _), aB _ _⟩
end Go.Proofs.YtpinockfakndlaaGreat
