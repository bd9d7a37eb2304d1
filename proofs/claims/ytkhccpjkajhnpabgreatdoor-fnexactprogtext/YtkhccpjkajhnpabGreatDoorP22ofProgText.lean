/-
  Texts in one: TxtProg, NumSpec, NumEnv, NumLaidEnv.
-/
import Derived.Test.YtkhccpjkajhnpabGreatDoorTxtBodyI
import Derived.Test.YtkhccpjkajhnpabGreatDoorProgImpl
import Derived.Test.YtkhccpjkajhnpabGreatDoorP07ofProgText
import Derived.WalkKit
import Derived.WalkLawsBesides
import Derived.Test.YtkhccpjkajhnpabGreatDoorRows
import Derived.Stop.LaidErr
import Derived.Lib.LaidTab
import Derived.LaidMore
import Derived.LaidLaws
import Derived.ProofKit
import Derived.Stop.Joined
/-
  The contracts of the specification's ProgText, and of the landed code's arrsText and ProgText.
-/
namespace Go.Proofs.YtkhccpjkajhnpabGreatDoor
open Go.RowKit Go.Lib
set_option linter.unusedSimpArgs false
set_option linter.unusedVariables false

theorem range_grw {w w6 : World} {r : Option Nat} {n o : Nat} {cs : List Value} (h : w.rangeAt n o cs) (hg : w.grownBy w6 r) (hne : r ≠ some n) : w6.rangeAt n o cs := fun j v hv => by
  have hc := h j v hv
  have e := hg.block n (lt_of_cellA hc) (fun e => hne e.symm)
  simp only [World.cell?, e] at hc ⊢
  exact hc
def progT (ts : List AR) (F : SF) : List UInt8 := if progB ts F = true then arrsT ts ++ bodyT F [] else []
/-- A good array: a short name, and a small size. -/
def goodA (t : AR) : Prop := t.s.size ≤ 6 ∧ 1 ≤ t.n ∧ t.n ≤ 16
theorem arrsB_mem : ∀ (ts : List AR) (p : Option AR), arrsB p ts = true → ∀ t ∈ ts, goodA t
  | [], _, _, t, ht => by simp at ht
  | a :: ts, p, h, t, ht => by
    simp only [arrsB, Bool.and_eq_true] at h
    rcases List.mem_cons.1 ht with rfl | ht
    · have h1 := h.1
      unfold arrB at h1
      simp only [Bool.and_eq_true, decide_eq_true_eq] at h1
      exact ⟨name_len h1.1.1, h1.1.2.1, h1.1.2.2⟩
    · exact arrsB_mem ts _ h.2 t ht
theorem progB_parts {ts : List AR} {F : SF} (h : progB ts F = true) : (∀ t ∈ ts, goodA t) ∧ ts.length ≤ 4 ∧ toldS 3 F = true ∧ snodes F ≤ 40 := by
  unfold progB headB at h
  simp only [Bool.and_eq_true, decide_eq_true_eq] at h
  exact ⟨arrsB_mem ts _ h.1.1, h.1.2.2.1, stmts_told F h.1.2.1, h.1.2.2.2.2⟩
theorem arrT1_len {t : AR} (h : goodA t) : (arrT1 t).length ≤ 60 := by
  have h1 := itoa_length_le t.n (by have := h.2.1; omega) (by have := h.2.2; omega)
  have h2 : t.s.data.toList.length = t.s.size := by simp
  have h3 := h.1
  unfold arrT1
  simp only [List.length_append, List.length_cons, List.length_nil]
  omega
theorem arrsT_len : ∀ (ts : List AR), (∀ t ∈ ts, goodA t) → (arrsT ts).length ≤ 60 * ts.length
  | [], _ => by simp [arrsT]
  | t :: ts, h => by
    have h1 := arrT1_len (h t (List.mem_cons_self ..))
    have h2 := arrsT_len ts (fun u hu => h u (List.mem_cons_of_mem _ hu))
    simp only [arrsT, List.length_append, List.length_cons]
    omega
theorem arrsT_take {ts : List AR} {k : Nat} {t : AR} (h : ts[k]? = some t) : arrsT (ts.take (k + 1)) = arrsT (ts.take k) ++ arrT1 t := by
  have hk : k < ts.length := (List.getElem?_eq_some_iff.1 h).1
  have e := (List.getElem?_eq_some_iff.1 h).2
  rw [List.take_succ_eq_append_getElem hk, arrsT_app, e]; simp [arrsT]
theorem take_len (ts : List AR) (h : ∀ t ∈ ts, goodA t) (hl : ts.length ≤ 4) (k : Nat) : (arrsT (ts.take k)).length ≤ 240 := by
  have h1 := arrsT_len (ts.take k) (fun t ht => h t (List.mem_of_mem_take ht))
  have h2 : (ts.take k).length ≤ ts.length := by rw [List.length_take]; omega
  omega
set_option maxHeartbeats 4000000 in
set_option maxRecDepth 100000 in
theorem spec_ProgText (ts : List AR) (hn : ts.length ≤ 1048576) (hts : ∀ t ∈ ts, t.s.size ≤ 1048576) (F : SF) (hS : ssize F ≤ 1048576) (hM : (sallE F).length ≤ 10000000) (va vb : Value) (w : World) (ha : AV w 0 va ts) (hv : SV w 0 F vb) :
    Calls Tryz.prog 5 #[.agg #[va, vb]] w fun e w' => e = .returned (.string (str (progT ts F))) ∧ Below w.heap.size w w' := by
  have Ha := Lib.hid ha
  have Hv := Lib.hid hv
  obtain ⟨ao, cap, rfl⟩ := ha.shape
  obtain ⟨vo, vcap, rfl⟩ := hv.shape
  have B := Lib.hid (alloc_below w (.cells #[.slice ao ts.length cap, .slice vo (slen F) vcap] 31))
  have R : Hid ((w.alloc (.cells #[.slice ao ts.length cap, .slice vo (slen F) vcap] 31)).rangeAt w.heap.size 0 [.slice ao ts.length cap, .slice vo (slen F) vcap]) := blk_range (arr := #[.slice ao ts.length cap, .slice vo (slen F) vcap]) (heap_last _ _)
  have CH := Lib.hid (spec_ProgOk ts hn hts F hS hM _ _ _ (Ha.out.later B.out) (Hv.out.later B.out))
  obtain ⟨bh, Hbh⟩ : ∃ bh, Hid (progB ts F = bh) := ⟨_, rfl⟩
  rw [Hbh.out] at CH
  clear ha hv hts
  go_enter Tryz.func5, Tryz.ntmps5
  go_wp2_with (refine wpList_load_mid rfl 31 _ rfl w.heap.size 0 rfl _ _ R.out Tryz.underlying31 rfl sizeIP ?_)
  refine CH.out.mono ?_
  rintro e w1 ⟨rfl, hb1⟩
  have B1 := Lib.hid (below_alloc hb1)
  have R1 := Lib.hid (rangeAt_later R.out hb1)
  clear hb1 CH R B
  cases bh with
  | false =>
    have E := Lib.hid (show progT ts F = [] by unfold progT; rw [Hbh.out]; rfl)
    go_wp2
    go_ret
    exact ⟨ret_str (by rw [E.out]; rfl), B1.out⟩
  | true =>
    have E := Lib.hid (show progT ts F = arrsT ts ++ bodyT F [] by unfold progT; rw [Hbh.out]; rfl)
    have HG := Lib.hid (progB_parts Hbh.out)
    have hl4 : (ts.length : Int) ≤ 4 := by have := HG.out.2.1; omega
    have HA1 := Lib.hid (Ha.out.later B1.out)
    have HV1 := Lib.hid (Hv.out.later B1.out)
    have q0 : w1.cell? ⟨w.heap.size, 0, Option.none⟩ = some (.slice ao ts.length cap) := R1.out 0 _ rfl
    have q1 : w1.cell? ⟨w.heap.size, 1, Option.none⟩ = some (.slice vo (slen F) vcap) := R1.out 1 _ rfl
    clear Hbh Ha Hv R1
    go_wp2
    go_loopw [3, 4] (fun x i wr => ∃ k : Nat, k ≤ ts.length ∧ x = .string (str (arrsT (ts.take k))) ∧ i = .int .i64 k ∧ Hid (Below w1.heap.size w1 wr)) (fun _ i _ => ts.length - (RowKit.intOf i).toNat)
    case atStart => exact ⟨0, by omega, rfl, rfl, Below.refl _ _⟩
    case round =>
      obtain ⟨k, hk, rfl, rfl, hbr⟩ := hrel
      have Q0 := Lib.hid (keeps hbr.out q0)
      have q0' := Q0.out
      by_cases hlt : k < ts.length
      · have hltI : (k : Int) < (ts.length : Int) := by omega
        obtain ⟨t, ht⟩ : ∃ t, ts[k]? = some t := ⟨ts[k], List.getElem?_eq_getElem hlt⟩
        obtain ⟨g, off, cap', hvv, hcells⟩ := arrAt_cells (HA1.out.later hbr.out) (by intro e; subst e; simp at hlt)
        injection hvv with e1 e2 e3
        subst e1
        clear e2 e3
        have c0 := Lib.hid (hcells k t ht).1
        have c1 := Lib.hid (hcells k t ht).2
        have hg := HG.out.1 t (List.mem_of_getElem? ht)
        obtain ⟨S, HS⟩ : ∃ S, Hid (str (arrsT (ts.take k)) = S) := ⟨_, Lib.hid rfl⟩
        have sS : S.size ≤ 240 := by rw [← HS.out, str_size]; exact take_len ts HG.out.1 HG.out.2.1 k
        have sN : t.s.size ≤ 6 := hg.1
        have lI := itoa_length_le t.n (by have := hg.2.1; omega) (by have := hg.2.2; omega)
        obtain ⟨I, HI⟩ : ∃ I, Hid (str (itoa t.n) = I) := ⟨_, Lib.hid rfl⟩
        have sI : I.size ≤ 40 := by rw [← HI.out, str_size]; omega
        have CN : Hid (∀ W, Calls Tryz.prog 12 #[.int .i64 t.n] W fun e w' => e = .returned (.string I) ∧ Below W.heap.size W w') := Lib.hid fun W => by rw [← HI.out]; exact spec_NumText t.n (by have := hg.2.1; omega) (by have := hg.2.2; omega) W
        have E7 := Lib.hid (show (((((S ++ (⟨#[97, 114, 114, 97, 121, 32]⟩ : ByteArray)) ++ t.s) ++ (⟨#[32]⟩ : ByteArray)) ++ I) ++ (⟨#[59, 10]⟩ : ByteArray)) = str (arrsT (ts.take (k + 1))) by
          rw [← HS.out, ← HI.out, arrsT_take ht, arrT1, ← str_of t.s]
          simp only [str_app, str_list, List.append_assoc, show (⟨#[97, 114, 114, 97, 121, 32]⟩ : ByteArray) = str [97, 114, 114, 97, 121, 32] from rfl, show (⟨#[32]⟩ : ByteArray) = str [32] from rfl, show (⟨#[59, 10]⟩ : ByteArray) = str [59, 10] from rfl])
        rw [HS.out]
        clear hcells hg lI ht
        have bd : Below wr.heap.size wr wr.drew := (Below.refl _ wr).drew
        go_wp2_with fail
        refine wp_region_held_drew (S := Below wr.heap.size wr) (by kernel_rfl) bd (fun hHeld => ?_)
        refine wpAnyH_take (i := 0) (v := .string S) rfl (by kernel_rfl) (by kernel_rfl) (by kernel_rfl) (fun _ _ _ h => h) (Or.inl ⟨by rfl, ?ys0⟩) hHeld ?_
        case ys0 => intro w hSw; go_simp
        simp only [Act.put, List.getElem_toArray, List.getElem_cons_succ, List.getElem_cons_zero, List.setIfInBounds_toArray, List.set_cons_zero, List.set_cons_succ]
        refine wpAnyH_take (i := 1) (v := .string (S ++ (⟨#[97, 114, 114, 97, 121, 32]⟩ : ByteArray))) rfl (by kernel_rfl) (by kernel_rfl) (by kernel_rfl) (fun _ _ _ h => h) (Or.inl ⟨by rfl, ?ys1⟩) hHeld ?_
        case ys1 => intro w hSw; first | (go_simp; done) | (go_simp; rw [if_neg (by omega)]; done) | (go_simp; rw [if_neg (by simp only [ByteArray.size_append]; omega)]; done) | (go_simp; omega) | (go_simp; simp only [ByteArray.size_append]; omega)
        simp only [Act.put, List.getElem_toArray, List.getElem_cons_succ, List.getElem_cons_zero, List.setIfInBounds_toArray, List.set_cons_zero, List.set_cons_succ]
        refine wpAnyH_take (i := 2) (v := .pointer (some ⟨w.heap.size, 0, Option.none⟩)) rfl (by kernel_rfl) (by kernel_rfl) (by kernel_rfl) (fun _ _ _ h => h) (Or.inl ⟨by rfl, ?ys2⟩) hHeld ?_
        case ys2 => intro w hSw; go_simp
        simp only [Act.put, List.getElem_toArray, List.getElem_cons_succ, List.getElem_cons_zero, List.setIfInBounds_toArray, List.set_cons_zero, List.set_cons_succ]
        refine wpAnyH_take (i := 3) (v := .slice (some ⟨g, off, Option.none⟩) ts.length cap) rfl (by kernel_rfl) (by kernel_rfl) (by kernel_rfl) (fun _ _ _ h => h) (Or.inl ⟨by rfl, ?ys3⟩) hHeld ?_
        case ys3 => intro w hSw; have q := keeps hSw Q0.out; go_simp
        simp only [Act.put, List.getElem_toArray, List.getElem_cons_succ, List.getElem_cons_zero, List.setIfInBounds_toArray, List.set_cons_zero, List.set_cons_succ]
        refine wpAnyH_take (i := 4) (v := .int .i64 (k : Int)) rfl (by kernel_rfl) (by kernel_rfl) (by kernel_rfl) (fun _ _ _ h => h) (Or.inl ⟨by rfl, ?ys4⟩) hHeld ?_
        case ys4 => intro w hSw; go_simp
        simp only [Act.put, List.getElem_toArray, List.getElem_cons_succ, List.getElem_cons_zero, List.setIfInBounds_toArray, List.set_cons_zero, List.set_cons_succ]
        refine wpAnyH_take (i := 5) (v := .pointer (some ⟨g, off + k * 2, Option.none⟩)) rfl (by kernel_rfl) (by kernel_rfl) (by kernel_rfl) (fun _ _ _ h => h) (Or.inl ⟨by rfl, ?ys5⟩) hHeld ?_
        case ys5 => intro w hSw; go_simp
        simp only [Act.put, List.getElem_toArray, List.getElem_cons_succ, List.getElem_cons_zero, List.setIfInBounds_toArray, List.set_cons_zero, List.set_cons_succ]
        refine wpAnyH_take (i := 6) (v := .pointer (some ⟨g, off + k * 2, Option.none⟩)) rfl (by kernel_rfl) (by kernel_rfl) (by kernel_rfl) (fun _ _ _ h => h) (Or.inl ⟨by rfl, ?ys6⟩) hHeld ?_
        case ys6 => intro w hSw; go_simp
        simp only [Act.put, List.getElem_toArray, List.getElem_cons_succ, List.getElem_cons_zero, List.setIfInBounds_toArray, List.set_cons_zero, List.set_cons_succ]
        refine wpAnyH_take (i := 7) (v := .string t.s) rfl (by kernel_rfl) (by kernel_rfl) (by kernel_rfl) (fun _ _ _ h => h) (Or.inl ⟨by rfl, ?ys7⟩) hHeld ?_
        case ys7 => intro w hSw; have q := keeps hSw c0.out; go_simp
        simp only [Act.put, List.getElem_toArray, List.getElem_cons_succ, List.getElem_cons_zero, List.setIfInBounds_toArray, List.set_cons_zero, List.set_cons_succ]
        refine wpAnyH_take (i := 8) (v := .string ((S ++ (⟨#[97, 114, 114, 97, 121, 32]⟩ : ByteArray)) ++ t.s)) rfl (by kernel_rfl) (by kernel_rfl) (by kernel_rfl) (fun _ _ _ h => h) (Or.inl ⟨by rfl, ?ys8⟩) hHeld ?_
        case ys8 => intro w hSw; first | (go_simp; done) | (go_simp; rw [if_neg (by omega)]; done) | (go_simp; rw [if_neg (by simp only [ByteArray.size_append]; omega)]; done) | (go_simp; omega) | (go_simp; simp only [ByteArray.size_append]; omega)
        simp only [Act.put, List.getElem_toArray, List.getElem_cons_succ, List.getElem_cons_zero, List.setIfInBounds_toArray, List.set_cons_zero, List.set_cons_succ]
        refine wpAnyH_take (i := 9) (v := .string (((S ++ (⟨#[97, 114, 114, 97, 121, 32]⟩ : ByteArray)) ++ t.s) ++ (⟨#[32]⟩ : ByteArray))) rfl (by kernel_rfl) (by kernel_rfl) (by kernel_rfl) (fun _ _ _ h => h) (Or.inl ⟨by rfl, ?ys9⟩) hHeld ?_
        case ys9 => intro w hSw; first | (go_simp; done) | (go_simp; rw [if_neg (by omega)]; done) | (go_simp; rw [if_neg (by simp only [ByteArray.size_append]; omega)]; done) | (go_simp; omega) | (go_simp; simp only [ByteArray.size_append]; omega)
        simp only [Act.put, List.getElem_toArray, List.getElem_cons_succ, List.getElem_cons_zero, List.setIfInBounds_toArray, List.set_cons_zero, List.set_cons_succ]
        refine wpAnyH_take (i := 10) (v := .pointer (some ⟨w.heap.size, 0, Option.none⟩)) rfl (by kernel_rfl) (by kernel_rfl) (by kernel_rfl) (fun _ _ _ h => h) (Or.inl ⟨by rfl, ?ys10⟩) hHeld ?_
        case ys10 => intro w hSw; go_simp
        simp only [Act.put, List.getElem_toArray, List.getElem_cons_succ, List.getElem_cons_zero, List.setIfInBounds_toArray, List.set_cons_zero, List.set_cons_succ]
        refine wpAnyH_take (i := 11) (v := .slice (some ⟨g, off, Option.none⟩) ts.length cap) rfl (by kernel_rfl) (by kernel_rfl) (by kernel_rfl) (fun _ _ _ h => h) (Or.inl ⟨by rfl, ?ys11⟩) hHeld ?_
        case ys11 => intro w hSw; have q := keeps hSw Q0.out; go_simp
        simp only [Act.put, List.getElem_toArray, List.getElem_cons_succ, List.getElem_cons_zero, List.setIfInBounds_toArray, List.set_cons_zero, List.set_cons_succ]
        refine wpAnyH_take (i := 12) (v := .int .i64 (k : Int)) rfl (by kernel_rfl) (by kernel_rfl) (by kernel_rfl) (fun _ _ _ h => h) (Or.inl ⟨by rfl, ?ys12⟩) hHeld ?_
        case ys12 => intro w hSw; go_simp
        simp only [Act.put, List.getElem_toArray, List.getElem_cons_succ, List.getElem_cons_zero, List.setIfInBounds_toArray, List.set_cons_zero, List.set_cons_succ]
        refine wpAnyH_take (i := 13) (v := .pointer (some ⟨g, off + k * 2, Option.none⟩)) rfl (by kernel_rfl) (by kernel_rfl) (by kernel_rfl) (fun _ _ _ h => h) (Or.inl ⟨by rfl, ?ys13⟩) hHeld ?_
        case ys13 => intro w hSw; go_simp
        simp only [Act.put, List.getElem_toArray, List.getElem_cons_succ, List.getElem_cons_zero, List.setIfInBounds_toArray, List.set_cons_zero, List.set_cons_succ]
        refine wpAnyH_take (i := 14) (v := .pointer (some ⟨g, off + k * 2 + 1, Option.none⟩)) rfl (by kernel_rfl) (by kernel_rfl) (by kernel_rfl) (fun _ _ _ h => h) (Or.inl ⟨by rfl, ?ys14⟩) hHeld ?_
        case ys14 => intro w hSw; go_simp
        simp only [Act.put, List.getElem_toArray, List.getElem_cons_succ, List.getElem_cons_zero, List.setIfInBounds_toArray, List.set_cons_zero, List.set_cons_succ]
        refine wpAnyH_take (i := 15) (v := .int .i64 t.n) rfl (by kernel_rfl) (by kernel_rfl) (by kernel_rfl) (fun _ _ _ h => h) (Or.inl ⟨by rfl, ?ys15⟩) hHeld ?_
        case ys15 => intro w hSw; have q := keeps hSw c1.out; go_simp
        simp only [Act.put, List.getElem_toArray, List.getElem_cons_succ, List.getElem_cons_zero, List.setIfInBounds_toArray, List.set_cons_zero, List.set_cons_succ]
        refine wpAnyH_ready (rs := [16]) (by kernel_rfl) (by simp) ?_
        refine AllReadyH.cons rfl (fun K hK => ?_) AllReadyH.nil
        rw [if_pos (by rfl)]
        simp only [List.getElem_toArray, List.getElem_cons_succ, List.getElem_cons_zero]
        go_wp2_with fail
        refine (CN.out _).mono ?_
        rintro e w5 ⟨rfl, hb5⟩
        go_wp2_with fail
        refine hK.out _ _ (hHeld.trans (hb5.mono hHeld.size)) (fun hHeld => ?_)
        try simp only [Act.put, List.getElem_toArray, List.getElem_cons_succ, List.getElem_cons_zero, List.setIfInBounds_toArray, List.set_cons_zero, List.set_cons_succ]
        refine wpAnyH_take (i := 17) (v := .string ((((S ++ (⟨#[97, 114, 114, 97, 121, 32]⟩ : ByteArray)) ++ t.s) ++ (⟨#[32]⟩ : ByteArray)) ++ I)) rfl (by kernel_rfl) (by kernel_rfl) (by kernel_rfl) (fun _ _ _ h => h) (Or.inl ⟨by rfl, ?ys17⟩) hHeld ?_
        case ys17 => intro w hSw; first | (go_simp; done) | (go_simp; rw [if_neg (by omega)]; done) | (go_simp; rw [if_neg (by simp only [ByteArray.size_append]; omega)]; done) | (go_simp; omega) | (go_simp; simp only [ByteArray.size_append]; omega)
        simp only [Act.put, List.getElem_toArray, List.getElem_cons_succ, List.getElem_cons_zero, List.setIfInBounds_toArray, List.set_cons_zero, List.set_cons_succ]
        refine wpAnyH_take (i := 18) (v := .string (((((S ++ (⟨#[97, 114, 114, 97, 121, 32]⟩ : ByteArray)) ++ t.s) ++ (⟨#[32]⟩ : ByteArray)) ++ I) ++ (⟨#[59, 10]⟩ : ByteArray))) rfl (by kernel_rfl) (by kernel_rfl) (by kernel_rfl) (fun _ _ _ h => h) (Or.inl ⟨by rfl, ?ys18⟩) hHeld ?_
        case ys18 => intro w hSw; first | (go_simp; done) | (go_simp; rw [if_neg (by omega)]; done) | (go_simp; rw [if_neg (by simp only [ByteArray.size_append]; omega)]; done) | (go_simp; omega) | (go_simp; simp only [ByteArray.size_append]; omega)
        simp only [Act.put, List.getElem_toArray, List.getElem_cons_succ, List.getElem_cons_zero, List.setIfInBounds_toArray, List.set_cons_zero, List.set_cons_succ]
        refine wpAnyH_take (i := 19) (v := .string (((((S ++ (⟨#[97, 114, 114, 97, 121, 32]⟩ : ByteArray)) ++ t.s) ++ (⟨#[32]⟩ : ByteArray)) ++ I) ++ (⟨#[59, 10]⟩ : ByteArray))) rfl (by kernel_rfl) (by kernel_rfl) (by kernel_rfl) (fun _ _ _ h => h) (Or.inl ⟨by rfl, ?ys19⟩) hHeld ?_
        case ys19 => intro w hSw; go_simp
        simp only [Act.put, List.getElem_toArray, List.getElem_cons_succ, List.getElem_cons_zero, List.setIfInBounds_toArray, List.set_cons_zero, List.set_cons_succ]
        refine wpAnyH_done (by kernel_rfl) ?_ _
        have BB := Lib.hid (hbr.out.trans (hHeld.mono hbr.out.size))
        clear hHeld bd CN
        rw [E7.out]
        clear E7
        go_wp2
        go_roundw
        case rel => exact ⟨k + 1, by omega, rfl, by go_num, BB⟩
        case measure => simp [RowKit.intOf]; omega
      · have hltI : ¬ (k : Int) < (ts.length : Int) := by omega
        have hke : k = ts.length := by omega
        have Q1 := keeps hbr.out q1
        have lA := take_len ts HG.out.1 HG.out.2.1 k
        have lB := bodyT_len F 3 [] HG.out.2.2.1 (by simp)
        have hF40 := HG.out.2.2.2
        obtain ⟨S, HS⟩ : ∃ S, Hid (str (arrsT (ts.take k)) = S) := ⟨_, Lib.hid rfl⟩
        have sS : S.size ≤ 240 := by rw [← HS.out, str_size]; exact lA
        obtain ⟨T, HT⟩ : ∃ T, Hid (str (bodyT F []) = T) := ⟨_, Lib.hid rfl⟩
        have sT : T.size ≤ 200000 := by rw [← HT.out, str_size]; omega
        have CB : Hid (Calls Tryz.prog 13 #[.slice vo (slen F) vcap, .string (⟨#[]⟩ : ByteArray)] wr fun e w' => e = .returned (.string T) ∧ Below wr.heap.size wr w') := Lib.hid (by rw [← HT.out]; exact l6Body_all 3 F HG.out.2.2.1 hF40 [] (by simp) wr _ (HV1.out.later hbr.out))
        have E8 := Lib.hid (show (S ++ T) = str (progT ts F) by rw [← HS.out, ← HT.out, str_app, E.out, hke, List.take_of_length_le (Nat.le_refl _)])
        rw [HS.out]
        clear lA lB hke HT HS
        go_wp2_with fail
        refine CB.out.mono ?_
        rintro e w3 ⟨rfl, hb3⟩
        have B3 := Lib.hid (B1.out.trans ((hbr.out.trans (hb3.mono hbr.out.size)).mono B1.out.size))
        clear hb3 CB
        have hsz : ¬ 140737488355328 < S.size + T.size := by omega
        go_wp2
        go_ret
        exact ⟨ret_str E8.out, B3.out⟩
set_option maxHeartbeats 4000000 in
set_option maxRecDepth 100000 in
theorem arrsText_is (ts : List AR) (hG : ∀ t ∈ ts, goodA t) (hl : ts.length ≤ 4) (va : Value) (w : World) (ha : AV w 0 va ts) (hT : TabT w) :
    Calls Tryz.prog 18 #[va] w fun e w' => e = .returned (.string (str (arrsT ts))) ∧ Below w.heap.size w w' := by
  obtain ⟨i0, hi0, hz0, hz1, hz2⟩ := info_parts infoStr
  have Ha := Lib.hid ha
  have HT := Lib.hid hT
  have HG := Lib.hid hG
  obtain ⟨ao, cap, rfl⟩ := ha.shape
  have hl4 : (ts.length : Int) ≤ 4 := by omega
  clear ha hT hG
  go_enter Tryz.func18, Tryz.ntmps18
  go_wp2
  go_loopw [3, 9] (fun out i wr => ∃ (k : Nat) (ns : List ByteArray), k ≤ ts.length ∧ i = .int .i64 (k : Int) ∧ Hid (catT ns = arrsT (ts.take k) ∧ ns.length = k) ∧ wr.ownsRow w.heap.size 9 1 out ns.length (ns.map Value.string) ∧ Below w.heap.size w wr) (fun _ i _ => ts.length - (RowKit.intOf i).toNat)
  case atStart => exact ⟨0, [], by omega, rfl, ⟨rfl, rfl⟩, ⟨rfl, .inr ⟨w.heap.size, 0, #[], rfl, Nat.le_refl _, (by show (w.heap.push _)[w.heap.size]? = _; simp), Nat.le_refl _, (by unfold maxLen; omega), rfl, rfl⟩⟩, alloc_below _ _⟩
  case round =>
    obtain ⟨k, ns, hk, rfl, hr, hown, hbw⟩ := hrel
    obtain ⟨oa, oc, rfl⟩ := ownShape hown
    by_cases hlt : k < ts.length
    · have hltI : (k : Int) < (ts.length : Int) := by omega
      obtain ⟨t, ht⟩ : ∃ t, ts[k]? = some t := ⟨ts[k], List.getElem?_eq_getElem hlt⟩
      obtain ⟨g, off, cap', hvv, hcells⟩ := arrAt_cells (Ha.out.later hbw) (by intro e; subst e; simp at hlt)
      injection hvv with e1 e2 e3
      subst e1
      clear e2 e3
      have c0 := (hcells k t ht).1
      have c1 := (hcells k t ht).2
      have hg := HG.out t (List.mem_of_getElem? ht)
      have lI := itoa_length_le t.n (by have := hg.2.1; omega) (by have := hg.2.2; omega)
      obtain ⟨I, HI⟩ : ∃ I, Hid (str (itoa t.n) = I) := ⟨_, Lib.hid rfl⟩
      have eI : I.data.toList = itoa t.n := by rw [← HI.out, str_list]
      have CN : Hid (∀ W, Below w.heap.size w W → Calls Tryz.prog 44 #[.int .i64 t.n] W fun e w' => e = .returned (.string I) ∧ Below W.heap.size W w') := Lib.hid fun W hW => by rw [← HI.out]; exact impl_NumText t.n (by have := hg.2.1; omega) (by have := hg.2.2; omega) W (HT.out.later hW)
      have hsl : t.s.data.toList.length = t.s.size := by simp
      have hg1 := hg.1
      have EQ := Lib.hid (show catT [⟨#[97, 114, 114, 97, 121, 32]⟩, t.s, ⟨#[32]⟩, I, ⟨#[59]⟩] ++ [10] = arrT1 t by unfold arrT1; simp only [catT, eI, List.append_assoc, List.append_nil]; try simp)
      have CL := Lib.hid (fun (W : World) => line_is [⟨#[97, 114, 114, 97, 121, 32]⟩, t.s, ⟨#[32]⟩, I, ⟨#[59]⟩] (by simp) (by simp only [catT, List.length_append, eI, List.length_nil, hsl]; simp; omega) _ _ (TV.new W [⟨#[97, 114, 114, 97, 121, 32]⟩, t.s, ⟨#[32]⟩, I, ⟨#[59]⟩] 9 5 5 rfl))
      rw [EQ.out] at CL
      obtain ⟨T, HTT⟩ : ∃ T, Hid (str (arrT1 t) = T) := ⟨_, Lib.hid rfl⟩
      have eT : T.data.toList = arrT1 t := by rw [← HTT.out, str_list]
      rw [HTT.out] at CL
      have He : Hid (catT (ns ++ [T]) = arrsT (ts.take (k + 1)) ∧ (ns ++ [T]).length = k + 1) := ⟨by rw [catT_app, hr.out.1, arrsT_take ht]; simp only [catT, eT, List.append_nil], by rw [List.length_append, hr.out.2]; rfl⟩
      have hol : (ns.length : Int) ≤ 4 := by have := hr.out.2; omega
      have HO := Lib.hid (And.intro hown hbw)
      have ba := alloc_below wr (.cells #[.string t.s, .int .i64 t.n] 39)
      obtain ⟨wa, Wa⟩ : ∃ wa, Hid (wa = wr.alloc (.cells #[.string t.s, .int .i64 t.n] 39)) := ⟨_, rfl⟩
      have RA := Lib.hid (show wa.rangeAt wr.heap.size 0 [.string t.s, .int .i64 t.n] by rw [Wa.out]; exact new_range wr #[.string t.s, .int .i64 t.n] 39)
      rw [← Wa.out] at ba
      have bd : Below wa.heap.size wa wa.drew := (Below.refl _ wa).drew
      have b1 := ba.trans (bd.mono ba.size)
      have B1 := Lib.hid b1
      have BW := Lib.hid (HO.out.2.trans (b1.mono HO.out.2.size))
      have hne : Hid (∀ e : (Value.slice oa ns.length oc).ownBlock = some wr.heap.size, False) := Lib.hid fun e => by have := (hown.lt _ e).2; omega
      clear hr hcells hg lI eI hsl hg1 eT hown hbw ba b1 ht HTT HI
      go_wp2_with fail
      rw [← Wa.out]
      clear Wa c0 c1
      refine wp_region_held_drew (S := fun w' => w'.rangeAt wr.heap.size 0 [.string t.s, .int .i64 t.n]) (by kernel_rfl) (rangeAt_later RA.out bd) (fun hHeld => ?_)
      refine wpAnyH_take (i := 0) (v := .slice oa ns.length oc) rfl (by kernel_rfl) (by kernel_rfl) (by kernel_rfl) (fun _ _ _ h => h) (Or.inl ⟨by rfl, ?ya0⟩) hHeld ?_
      case ya0 => intro w hSw; go_simp
      simp only [Act.put, List.getElem_toArray, List.getElem_cons_succ, List.getElem_cons_zero, List.setIfInBounds_toArray, List.set_cons_zero, List.set_cons_succ]
      refine wpAnyH_take (i := 1) (v := .pointer (some ⟨wr.heap.size, 0, Option.none⟩)) rfl (by kernel_rfl) (by kernel_rfl) (by kernel_rfl) (fun _ _ _ h => h) (Or.inl ⟨by rfl, ?ya1⟩) hHeld ?_
      case ya1 => intro w hSw; go_simp
      simp only [Act.put, List.getElem_toArray, List.getElem_cons_succ, List.getElem_cons_zero, List.setIfInBounds_toArray, List.set_cons_zero, List.set_cons_succ]
      refine wpAnyH_take (i := 2) (v := .string t.s) rfl (by kernel_rfl) (by kernel_rfl) (by kernel_rfl) (fun _ _ _ h => h) (Or.inl ⟨by rfl, ?ya2⟩) hHeld ?_
      case ya2 => intro w hSw; have q : _ = _ := hSw 0 _ rfl; simp only [Nat.zero_add] at q; go_simp
      simp only [Act.put, List.getElem_toArray, List.getElem_cons_succ, List.getElem_cons_zero, List.setIfInBounds_toArray, List.set_cons_zero, List.set_cons_succ]
      refine wpAnyH_take (i := 3) (v := .pointer (some ⟨wr.heap.size, 1, Option.none⟩)) rfl (by kernel_rfl) (by kernel_rfl) (by kernel_rfl) (fun _ _ _ h => h) (Or.inl ⟨by rfl, ?ya3⟩) hHeld ?_
      case ya3 => intro w hSw; go_simp
      simp only [Act.put, List.getElem_toArray, List.getElem_cons_succ, List.getElem_cons_zero, List.setIfInBounds_toArray, List.set_cons_zero, List.set_cons_succ]
      refine wpAnyH_take (i := 4) (v := .int .i64 t.n) rfl (by kernel_rfl) (by kernel_rfl) (by kernel_rfl) (fun _ _ _ h => h) (Or.inl ⟨by rfl, ?ya4⟩) hHeld ?_
      case ya4 => intro w hSw; have q : _ = _ := hSw 1 _ rfl; simp only [Nat.zero_add] at q; go_simp
      simp only [Act.put, List.getElem_toArray, List.getElem_cons_succ, List.getElem_cons_zero, List.setIfInBounds_toArray, List.set_cons_zero, List.set_cons_succ]
      refine wpAnyH_ready (rs := [5]) (by kernel_rfl) (by simp) ?_
      refine AllReadyH.cons rfl (fun K hK => ?_) AllReadyH.nil
      rw [if_pos (by rfl)]
      simp only [List.getElem_toArray, List.getElem_cons_succ, List.getElem_cons_zero]
      go_wp2_with fail
      refine (CN.out _ BW.out).mono ?_
      rintro e w5 ⟨rfl, hb5⟩
      go_wp2_with fail
      refine hK.out _ _ (rangeAt_later hHeld hb5) (fun hHeld => ?_)
      try simp only [Act.put, List.getElem_toArray, List.getElem_cons_succ, List.getElem_cons_zero, List.setIfInBounds_toArray, List.set_cons_zero, List.set_cons_succ]
      have B5 := Lib.hid (B1.out.trans (hb5.mono B1.out.size))
      refine wpAnyH_ready (rs := [6]) (by kernel_rfl) (by simp) ?_
      refine AllReadyH.cons rfl (fun K hK => ?_) AllReadyH.nil
      rw [if_pos (by rfl)]
      simp only [List.getElem_toArray, List.getElem_cons_succ, List.getElem_cons_zero]
      go_wp2_with fail
      refine hK.out _ _ (World.rangeAt_alloc hHeld _) (fun hHeld => ?_)
      try simp only [Act.put, List.getElem_toArray, List.getElem_cons_succ, List.getElem_cons_zero, List.setIfInBounds_toArray, List.set_cons_zero, List.set_cons_succ]
      refine wpAnyH_ready (rs := [7]) (by kernel_rfl) (by simp) ?_
      refine AllReadyH.cons rfl (fun K hK => ?_) AllReadyH.nil
      rw [if_pos (by rfl)]
      simp only [List.getElem_toArray, List.getElem_cons_succ, List.getElem_cons_zero]
      go_wp2_with fail
      refine (CL.out w5).mono ?_
      rintro e w7 ⟨rfl, hb7⟩
      go_wp2_with fail
      refine hK.out _ _ (rangeAt_later hHeld hb7) (fun hHeld => ?_)
      try simp only [Act.put, List.getElem_toArray, List.getElem_cons_succ, List.getElem_cons_zero, List.setIfInBounds_toArray, List.set_cons_zero, List.set_cons_succ]
      have c7 := B5.out.trans ((below_alloc hb7).mono B5.out.size)
      have hown7 := ownB HO.out.1 c7
      have hbr7 := HO.out.2.trans (c7.mono HO.out.2.size)
      have hsz := hbr7.size
      refine wpAnyH_ready (rs := [8]) (by kernel_rfl) (by simp) ?_
      refine AllReadyH.cons rfl (fun K hK => ?_) AllReadyH.nil
      rw [if_pos (by rfl)]
      simp only [List.getElem_toArray, List.getElem_cons_succ, List.getElem_cons_zero]
      go_wp2_with fail
      refine hK.out _ _ (World.rangeAt_alloc hHeld _) (fun hHeld => ?_)
      try simp only [Act.put, List.getElem_toArray, List.getElem_cons_succ, List.getElem_cons_zero, List.setIfInBounds_toArray, List.set_cons_zero, List.set_cons_succ]
      refine wpAnyH_ready (rs := [9]) (by kernel_rfl) (by simp) ?_
      refine AllReadyH.cons rfl (fun K hK => ?_) AllReadyH.nil
      rw [if_pos (by rfl)]
      simp only [List.getElem_toArray, List.getElem_cons_succ, List.getElem_cons_zero]
      refine wp_append_own _ _ _ 56 (by rfl) w.heap.size 9 i0 _ 1 16 Tryz.underlying56 hi0 hz0 hz1 hz2 rfl (by decide) _ _ _ (by rfl) (hown7.alloc _) ⟨w7.heap.size, 0, Option.none⟩ 1 1 [.string T] (by rfl) (by rfl) (one_news (one_cell _ _ _)) str_one1 (by unfold maxLen; omega) (by omega) (by first | omega | (simp; omega)) ?_
      intro v' w8 hown8 hgrow8 _
      obtain ⟨m1, m2⟩ := snocT hown7 hbr7 hgrow8 hown8
      refine hK.out _ _ (range_grw hHeld hgrow8 (fun e => hne.out e)) (fun hHeld => ?_)
      simp only [Act.put, List.getElem_toArray, List.getElem_cons_succ, List.getElem_cons_zero, List.setIfInBounds_toArray, List.set_cons_zero, List.set_cons_succ]
      refine wpAnyH_take (i := 10) (v := v') rfl (by kernel_rfl) (by kernel_rfl) (by kernel_rfl) (fun _ _ _ h => h) (Or.inl ⟨by rfl, ?ya10⟩) hHeld ?_
      case ya10 => intro w hSw; go_simp
      simp only [Act.put, List.getElem_toArray, List.getElem_cons_succ, List.getElem_cons_zero, List.setIfInBounds_toArray, List.set_cons_zero, List.set_cons_succ]
      refine wpAnyH_done (by kernel_rfl) ?_ _
      clear hHeld hown7 hown8 hgrow8 hbr7 c7 CN CL bd
      go_wp2
      go_roundw
      case rel => exact ⟨k + 1, ns ++ [T], by omega, by go_num, He, m1, m2⟩
      case measure => simp [RowKit.intOf]; omega
    · have hltI : ¬ (k : Int) < (ts.length : Int) := by omega
      have hke : k = ts.length := by omega
      have E := Lib.hid (show catT ns = arrsT ts by rw [hr.out.1, hke, List.take_of_length_le (Nat.le_refl _)])
      have CJ := Lib.hid (joined_is ns (by have := hr.out.2; omega) (by rw [E.out]; have := arrsT_len ts HG.out; omega) _ wr (TV.of hown).low)
      rw [E.out] at CJ
      have BW := Lib.hid hbw
      clear hr hown hbw hke
      go_wp2_with fail
      refine CJ.out.mono ?_
      rintro e w1 ⟨rfl, hb1⟩
      have B1 := Lib.hid (BW.out.trans (hb1.mono BW.out.size))
      clear hb1 CJ
      go_wp2
      go_ret
      exact ⟨rfl, B1.out⟩
set_option maxHeartbeats 2000000 in
set_option maxRecDepth 100000 in
theorem impl_ProgText (ts : List AR) (hn : ts.length ≤ 1048576) (hts : ∀ t ∈ ts, t.s.size ≤ 1048576) (F : SF) (hS : ssize F ≤ 1048576) (va vb : Value) (w : World) (ha : AV w 0 va ts) (hv : SV w 0 F vb) (hT : TabT w) :
    Calls Tryz.prog 7 #[.agg #[va, vb]] w fun e w' => e = .returned (.string (str (progT ts F))) ∧ Below w.heap.size w w' := by
  have Ha := Lib.hid ha
  have Hv := Lib.hid hv
  have HT := Lib.hid hT
  obtain ⟨ao, cap, rfl⟩ := ha.shape
  obtain ⟨vo, vcap, rfl⟩ := hv.shape
  have B := Lib.hid (alloc_below w (.cells #[.slice ao ts.length cap, .slice vo (slen F) vcap] 31))
  have R : Hid ((w.alloc (.cells #[.slice ao ts.length cap, .slice vo (slen F) vcap] 31)).rangeAt w.heap.size 0 [.slice ao ts.length cap, .slice vo (slen F) vcap]) := blk_range (arr := #[.slice ao ts.length cap, .slice vo (slen F) vcap]) (heap_last _ _)
  have CH := Lib.hid (impl_ProgOk ts hn hts F hS _ _ _ (Ha.out.later B.out) (Hv.out.later B.out))
  obtain ⟨bh, Hbh⟩ : ∃ bh, Hid (progB ts F = bh) := ⟨_, rfl⟩
  rw [Hbh.out] at CH
  clear ha hv hts hT
  go_enter Tryz.func7, Tryz.ntmps7
  go_wp2_with (refine wpList_load_mid rfl 31 _ rfl w.heap.size 0 rfl _ _ R.out Tryz.underlying31 rfl sizeIP ?_)
  refine CH.out.mono ?_
  rintro e w1 ⟨rfl, hb1⟩
  have B1 := Lib.hid (below_alloc hb1)
  have R1 := Lib.hid (rangeAt_later R.out hb1)
  clear hb1 CH R B
  cases bh with
  | false =>
    have E := Lib.hid (show progT ts F = [] by unfold progT; rw [Hbh.out]; rfl)
    go_wp2
    go_ret
    exact ⟨ret_str (by rw [E.out]; rfl), B1.out⟩
  | true =>
    have E := Lib.hid (show progT ts F = arrsT ts ++ bodyT F [] by unfold progT; rw [Hbh.out]; rfl)
    have HG := progB_parts Hbh.out
    obtain ⟨S, HS⟩ : ∃ S, Hid (str (arrsT ts) = S) := ⟨_, Lib.hid rfl⟩
    have eS : S.data.toList = arrsT ts := by rw [← HS.out, str_list]
    obtain ⟨T, HTT⟩ : ∃ T, Hid (str (bodyT F []) = T) := ⟨_, Lib.hid rfl⟩
    have eT : T.data.toList = bodyT F [] := by rw [← HTT.out, str_list]
    have lA := arrsT_len ts HG.1
    have lB := bodyT_len F 3 [] HG.2.2.1 (by simp)
    have h4 := HG.2.1
    have h40 := HG.2.2.2
    have CA : Hid (∀ W, Below w1.heap.size w1 W → Calls Tryz.prog 18 #[.slice ao ts.length cap] W fun e w' => e = .returned (.string S) ∧ Below W.heap.size W w') := Lib.hid fun W hW => by rw [← HS.out]; exact arrsText_is ts HG.1 HG.2.1 _ W ((Ha.out.later B1.out).later hW) ((HT.out.later B1.out).later hW)
    have CB : Hid (∀ W, Below w1.heap.size w1 W → Calls Tryz.prog 19 #[.slice vo (slen F) vcap, .string (⟨#[]⟩ : ByteArray)] W fun e w' => e = .returned (.string T) ∧ Below W.heap.size W w') := Lib.hid fun W hW => by rw [← HTT.out]; exact bodyText_all 3 F HG.2.2.1 HG.2.2.2 [] (by simp) W _ ((Hv.out.later B1.out).later hW) ((HT.out.later B1.out).later hW)
    have EQ := Lib.hid (show catT [S, T] = progT ts F by rw [E.out]; simp only [catT, eS, eT, List.append_nil])
    have CJ := Lib.hid (fun (W : World) => joined_is [S, T] (by simp) (by rw [EQ.out, E.out, List.length_append]; omega) _ _ (TV.new W [S, T] 9 2 2 rfl))
    rw [EQ.out] at CJ
    have bd : Below w1.heap.size w1 w1.drew := (Below.refl _ w1).drew
    clear Hbh HG eS eT lA lB h4 h40 Ha Hv HT HS HTT E
    go_wp2_with fail
    refine wp_region_held_drew (S := Below w1.heap.size w1) (by kernel_rfl) bd (fun hHeld => ?_)
    refine wpAnyH_take (i := 0) (v := .pointer (some ⟨w.heap.size, 0, Option.none⟩)) rfl (by kernel_rfl) (by kernel_rfl) (by kernel_rfl) (fun _ _ _ h => h) (Or.inl ⟨by rfl, ?yp0⟩) hHeld ?_
    case yp0 => intro w hSw; go_simp
    simp only [Act.put, List.getElem_toArray, List.getElem_cons_succ, List.getElem_cons_zero, List.setIfInBounds_toArray, List.set_cons_zero, List.set_cons_succ]
    refine wpAnyH_take (i := 1) (v := .slice ao ts.length cap) rfl (by kernel_rfl) (by kernel_rfl) (by kernel_rfl) (fun _ _ _ h => h) (Or.inl ⟨by rfl, ?yp1⟩) hHeld ?_
    case yp1 => intro w hSw; have q : _ = _ := rangeAt_later R1.out hSw 0 _ rfl; simp only [Nat.zero_add] at q; go_simp
    simp only [Act.put, List.getElem_toArray, List.getElem_cons_succ, List.getElem_cons_zero, List.setIfInBounds_toArray, List.set_cons_zero, List.set_cons_succ]
    refine wpAnyH_take (i := 3) (v := .pointer (some ⟨w.heap.size, 1, Option.none⟩)) rfl (by kernel_rfl) (by kernel_rfl) (by kernel_rfl) (fun _ _ _ h => h) (Or.inl ⟨by rfl, ?yp3⟩) hHeld ?_
    case yp3 => intro w hSw; go_simp
    simp only [Act.put, List.getElem_toArray, List.getElem_cons_succ, List.getElem_cons_zero, List.setIfInBounds_toArray, List.set_cons_zero, List.set_cons_succ]
    refine wpAnyH_take (i := 4) (v := .slice vo (slen F) vcap) rfl (by kernel_rfl) (by kernel_rfl) (by kernel_rfl) (fun _ _ _ h => h) (Or.inl ⟨by rfl, ?yp4⟩) hHeld ?_
    case yp4 => intro w hSw; have q : _ = _ := rangeAt_later R1.out hSw 1 _ rfl; simp only [Nat.zero_add] at q; go_simp
    simp only [Act.put, List.getElem_toArray, List.getElem_cons_succ, List.getElem_cons_zero, List.setIfInBounds_toArray, List.set_cons_zero, List.set_cons_succ]
    refine wpAnyH_ready (rs := [2]) (by kernel_rfl) (by simp) ?_
    refine AllReadyH.cons rfl (fun K hK => ?_) AllReadyH.nil
    rw [if_pos (by rfl)]
    simp only [List.getElem_toArray, List.getElem_cons_succ, List.getElem_cons_zero]
    go_wp2_with fail
    refine (CA.out _ hHeld).mono ?_
    rintro e w5 ⟨rfl, hb5⟩
    go_wp2_with fail
    refine hK.out _ _ (hHeld.trans (hb5.mono hHeld.size)) (fun hHeld => ?_)
    try simp only [Act.put, List.getElem_toArray, List.getElem_cons_succ, List.getElem_cons_zero, List.setIfInBounds_toArray, List.set_cons_zero, List.set_cons_succ]
    refine wpAnyH_ready (rs := [5]) (by kernel_rfl) (by simp) ?_
    refine AllReadyH.cons rfl (fun K hK => ?_) AllReadyH.nil
    rw [if_pos (by rfl)]
    simp only [List.getElem_toArray, List.getElem_cons_succ, List.getElem_cons_zero]
    go_wp2_with fail
    refine (CB.out _ hHeld).mono ?_
    rintro e w6 ⟨rfl, hb6⟩
    go_wp2_with fail
    refine hK.out _ _ (hHeld.trans (hb6.mono hHeld.size)) (fun hHeld => ?_)
    try simp only [Act.put, List.getElem_toArray, List.getElem_cons_succ, List.getElem_cons_zero, List.setIfInBounds_toArray, List.set_cons_zero, List.set_cons_succ]
    refine wpAnyH_ready (rs := [6]) (by kernel_rfl) (by simp) ?_
    refine AllReadyH.cons rfl (fun K hK => ?_) AllReadyH.nil
    rw [if_pos (by rfl)]
    simp only [List.getElem_toArray, List.getElem_cons_succ, List.getElem_cons_zero]
    go_wp2_with fail
    refine hK.out _ _ (hHeld.alloc hHeld.size _) (fun hHeld => ?_)
    try simp only [Act.put, List.getElem_toArray, List.getElem_cons_succ, List.getElem_cons_zero, List.setIfInBounds_toArray, List.set_cons_zero, List.set_cons_succ]
    refine wpAnyH_ready (rs := [7]) (by kernel_rfl) (by simp) ?_
    refine AllReadyH.cons rfl (fun K hK => ?_) AllReadyH.nil
    rw [if_pos (by rfl)]
    simp only [List.getElem_toArray, List.getElem_cons_succ, List.getElem_cons_zero]
    go_wp2_with fail
    refine (CJ.out w6).mono ?_
    rintro e w7 ⟨rfl, hb7⟩
    go_wp2_with fail
    refine hK.out _ _ (hHeld.trans (hb7.mono hHeld.size)) (fun hHeld => ?_)
    try simp only [Act.put, List.getElem_toArray, List.getElem_cons_succ, List.getElem_cons_zero, List.setIfInBounds_toArray, List.set_cons_zero, List.set_cons_succ]
    refine wpAnyH_take (i := 8) (v := .string (str (progT ts F))) rfl (by kernel_rfl) (by kernel_rfl) (by kernel_rfl) (fun _ _ _ h => h) (Or.inl ⟨by rfl, ?yp8⟩) hHeld ?_
    case yp8 => intro w hSw; go_simp
    simp only [Act.put, List.getElem_toArray, List.getElem_cons_succ, List.getElem_cons_zero, List.setIfInBounds_toArray, List.set_cons_zero, List.set_cons_succ]
    refine wpAnyH_done (by kernel_rfl) ?_ _
    have BB := Lib.hid (B1.out.trans (hHeld.mono B1.out.size))
    clear hHeld bd
    go_wp2
    go_ret
    exact ⟨rfl, BB.out⟩
end Go.Proofs.YtkhccpjkajhnpabGreatDoor
/-
  The contract of the specification's ParseNum.
-/
namespace Go.Proofs.YtkhccpjkajhnpabGreatDoor
open Go.RowKit Go.Lib

theorem In_yes (x a b : Int) (w : World) (h1 : a ≤ x) (h2 : x ≤ b) : Calls Tryz.prog 50 #[.int .i64 x, .int .i64 a, .int .i64 b] w fun e w' => e = .returned (.bool true) ∧ w = w' :=
  (spec_In x a b w).mono fun e w' ⟨he, hw⟩ => ⟨by rw [he]; simp [h1, h2], hw⟩
theorem In_no (x a b : Int) (w : World) (h : x < a ∨ b < x) : Calls Tryz.prog 50 #[.int .i64 x, .int .i64 a, .int .i64 b] w fun e w' => e = .returned (.bool false) ∧ w = w' :=
  (spec_In x a b w).mono fun e w' ⟨he, hw⟩ => ⟨by rw [he]; simp; omega, hw⟩

theorem at_byte (s : ByteArray) (k : Nat) (h : k < s.size) : s.data.toList[k]? = some s[k] := by
  rw [List.getElem?_eq_getElem (by simpa using h)]; rfl
theorem no_digit {s : ByteArray} {k : Nat} (h : k < s.size) (hd : ¬ (48 ≤ (s[k].toNat : Int) ∧ (s[k].toNat : Int) ≤ 57)) : parseNum s.data.toList = none := by
  apply spec_none_byte
  cases hc : decFrom 0 s.data.toList with
  | none => rfl
  | some n =>
    obtain ⟨d, hd'⟩ := digit_of_decFrom _ _ _ hc k _ (at_byte s k h)
    have := digitVal_eq hd'
    omega
theorem dec_next {s : ByteArray} {k m : Nat} (h : k < s.size) (hm : decFrom 0 (s.data.toList.take k) = some m) (h1 : 48 ≤ (s[k].toNat : Int)) (h2 : (s[k].toNat : Int) ≤ 57) :
    decFrom 0 (s.data.toList.take (k + 1)) = some (m * 10 + (s[k].toNat - 48)) := by
  refine decFrom_take _ k 0 m _ _ hm (at_byte s k h) ?_
  unfold digitVal
  rw [if_pos (by omega)]
theorem dec_all {s : ByteArray} {k m : Nat} (h : s.size ≤ k) (hm : decFrom 0 (s.data.toList.take k) = some m) : decFrom 0 s.data.toList = some m := by
  rwa [List.take_of_length_le (by simpa using h)] at hm

theorem out_none {s : ByteArray} (h : s.size = 0 ∨ 10 < s.size) : parseNum s.data.toList = none := by
  rcases h with h | h
  · have e : s.data.toList = [] := List.length_eq_zero_iff.1 (by simpa using h)
    rw [e]; exact spec_none_nil
  · exact spec_none_long (by simpa using h)
theorem head_of (s : ByteArray) (h : 0 < s.size) (h0 : (s[0].toNat : Int) = 48) : s.data.toList.head? = some 48 := by
  rw [List.head?_eq_getElem?, at_byte s 0 h]
  congr 1
  apply UInt8.toNat_inj.1
  show s[0].toNat = 48
  omega
theorem head_is (s : ByteArray) (h : 0 < s.size) (h0 : s.data.toList.head? = some 48) : (s[0].toNat : Int) = 48 := by
  rw [List.head?_eq_getElem?, at_byte s 0 h] at h0
  rw [Option.some.inj h0]; rfl

end Go.Proofs.YtkhccpjkajhnpabGreatDoor
/-
  What NumText and ParseNum want of the package variables of Go's library, carried from world to world.
-/
namespace Go.Proofs.YtkhccpjkajhnpabGreatDoor
open Go.RowKit Go.Lib

end Go.Proofs.YtkhccpjkajhnpabGreatDoor
/-
  What the listed package-level variables give the walks: the table of the powers of ten, and the two errors' cells.
-/
namespace Go.Proofs.YtkhccpjkajhnpabGreatDoor
open Go.RowKit
theorem gPowType : (Tryz.prog.globals[ 0 ]?).map (·.type) = some 164 := by kernel_rfl
theorem cells9 : Tryz.prog.cellsOf 9 = 1 := by kernel_rfl
theorem cells43 : Tryz.prog.cellsOf 151 = 1 := by kernel_rfl
theorem cells56 : Tryz.prog.cellsOf 164 = 20 := by kernel_rfl
theorem star : "*" ++ "errors.errorString" = "*errors.errorString" := by decide
theorem powData : (Rows.laid_internal_strconv_uint64pow10 : DataW Unit) = Lib.tabData .u64 Lib.pow10Tab := by kernel_rfl
theorem tab_of {W : World} {r : List (String × DataW Unit)} (h : laidMet Tryz.prog (("internal/strconv.uint64pow10", Rows.laid_internal_strconv_uint64pow10) :: r) W) : Lib.TabIs Tryz.prog W "internal/strconv.uint64pow10" .u64 Lib.pow10Tab := by
  rw [powData] at h
  exact Lib.tabIs_of_head gPow gPowType Tryz.underlying164 Tryz.underlying151 cells43 cells56 h
end Go.Proofs.YtkhccpjkajhnpabGreatDoor
