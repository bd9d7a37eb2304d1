import Derived.Test.YtpinockfakndlaaGreatZp
import Derived.Test.YtpinockfakndlaaGreatProgHead
import Derived.Test.YtpinockfakndlaaGreatP26ofFnEvals
import Derived.Test.YtpinockfakndlaaGreatNameAskW
namespace Go.Proofs.YtpinockfakndlaaGreat
open Go.RowKit Go.Lib
set_option linter.unusedSimpArgs false
set_option linter.unusedVariables false
def arrNames (ts : List AR) : List ByteArray := ts.map (·.s)
def namesB (ts : List AR) (F : SF) : Bool :=
  allArrs ts (nmS 2 F []) && (allArrs ts (nmA 3 F []) && (apart (arrNames ts) (nmS 1 F []) && (apart (arrNames ts) (nmS 3 F []) && (apart (arrNames ts) (nmA 2 F []) && (apart (nmS 1 F []) (nmS 3 F []) && (nestB F [] && decide ((nmS 1 F []).length ≤ 6)))))))
def headB (ts : List AR) (F : SF) : Bool := arrsB Option.none ts && (stmtsB F && (decide (ts.length ≤ 4) && (decide (slen F ≤ 12) && decide (snodes F ≤ 40))))
def progB (ts : List AR) (F : SF) : Bool := headB ts F && namesB ts F
theorem arrNames_take {ts : List AR} {k : Nat} {t : AR} (h : ts[k]? = some t) : arrNames (ts.take (k + 1)) = arrNames (ts.take k) ++ [t.s] := by
  unfold arrNames; rw [take_snocA h, List.map_append]; rfl
set_option maxHeartbeats 4000000 in
set_option maxRecDepth 100000 in
theorem spec_ProgOk (ts : List AR) (hn : ts.length ≤ 1048576) (hts : ∀ t ∈ ts, t.s.size ≤ 1048576) (F : SF) (hS : ssize F ≤ 1048576) (hM : (sallE F).length ≤ 10000000) (va vb : Value) (w : World) (ha : AV w 0 va ts) (hv : SV w 0 F vb) :
    Calls Tryz.prog 33 #[.agg #[va, vb]] w fun e w' => e = .returned (.bool (progB ts F)) ∧ Below w.heap.size w w' := by
  obtain ⟨i0, hi0, hz0, hz1, hz2⟩ := info_parts infoStr
  have Ha := hid ha
  have Hv := hid hv
  have hF := Nat.le_trans (snodes_le F) hS
  obtain ⟨ao, cap, rfl⟩ := ha.shape
  obtain ⟨vo, vcap, rfl⟩ := hv.shape
  obtain ⟨A, HA⟩ : ∃ A, Hid (progB ts F = A) := ⟨_, rfl⟩
  obtain ⟨bh, Hbh⟩ : ∃ bh, Hid (headB ts F = bh) := ⟨_, rfl⟩
  rw [HA.out]
  have B := hid (aB w (.cells #[.slice ao ts.length cap, .slice vo (slen F) vcap] 27))
  have R : Hid ((w.alloc (.cells #[.slice ao ts.length cap, .slice vo (slen F) vcap] 27)).rangeAt w.heap.size 0 [.slice ao ts.length cap, .slice vo (slen F) vcap]) := blk_range (arr := #[.slice ao ts.length cap, .slice vo (slen F) vcap]) (heap_last _ _)
  have CH := hid (l4Head_is ts hn hts F hS bh Hbh.out _ _ _ (Ha.out.later B.out) (Hv.out.later B.out))
  clear ha hv hts
  go_enter Tryz.func33, Tryz.ntmps33
  go_wp2_with (refine wpList_load_mid rfl 27 _ rfl w.heap.size 0 rfl _ _ R.out Tryz.underlying27 rfl sizeIP ?_)
  refine CH.out.mono ?_
  rintro e w1 ⟨rfl, hb1⟩
  have B1 := hid (below_alloc hb1)
  have R1 := hid (rangeAt_later R.out hb1)
  clear hb1 CH R B
  cases bh with
  | false =>
    have E := hid (show false = A by rw [← HA.out]; unfold progB; rw [Hbh.out]; rfl)
    go_wp2
    go_ret
    exact ⟨ret_bool E.out, B1.out⟩
  | true =>
    have E := hid (show namesB ts F = A by rw [← HA.out]; unfold progB; rw [Hbh.out]; rfl)
    have q0 : w1.cell? ⟨w.heap.size, 0, Option.none⟩ = some (.slice ao ts.length cap) := R1.out 0 _ rfl
    clear HA Hbh
    go_wp2
    go_loopw [3, 4] (fun x i wr => ∃ k : Nat, k ≤ ts.length ∧ i = .int .i64 k ∧ Hid (wr.ownsRow w1.heap.size 9 1 x (arrNames (ts.take k)).length ((arrNames (ts.take k)).map Value.string)) ∧ Hid (Below w1.heap.size w1 wr)) (fun _ i _ => ts.length - (RowKit.intOf i).toNat)
    case atStart => exact ⟨0, by omega, rfl, own_made w1 _ (Nat.le_refl _) _, aB _ _⟩
    case round =>
      obtain ⟨k, hk, rfl, hown, hbr⟩ := hrel
      have hlen : (arrNames (ts.take k)).length ≤ 1048576 := by unfold arrNames; rw [List.length_map, List.length_take]; omega
      have q0 := keeps hbr.out q0
      by_cases hlt : k < ts.length
      · have hltI : (k : Int) < (ts.length : Int) := by omega
        obtain ⟨t, ht⟩ : ∃ t, ts[k]? = some t := ⟨ts[k], List.getElem?_eq_getElem hlt⟩
        obtain ⟨g, off, cap', hvv, hcells⟩ := arrAt_cells ((Ha.out.later B1.out).later hbr.out) (by intro e; subst e; simp at hlt)
        injection hvv with e1 e2 e3
        subst e1
        clear e2 e3
        have c0 := (hcells k t ht).1
        have hE := hid (arrNames_take ht)
        obtain ⟨oa, oc, rfl⟩ := ownShape hown.out
        clear hcells ht
        have hs0 := hbr.out.size
        go_wp2_with (at_builtin; refine wpList_append_own _ rfl _ _ 57 rfl w1.heap.size 9 i0 _ 1 16 Tryz.underlying57 hi0 hz0 hz1 hz2 rfl (by decide) _ _ _ rfl (hown.out.alloc _) ⟨wr.heap.size, 0, Option.none⟩ 1 1 [.string t.s] rfl rfl (newT _ _ _) ?cb2 ?cb3 ?cb4 ?cb5 ?_)
        case cb2 => first | rfl | (intro x hx; simp only [List.mem_cons, List.not_mem_nil, or_false] at hx; subst hx; rfl)
        case cb3 => unfold maxLen; omega
        case cb4 => omega
        case cb5 => first | omega | (simp; omega)
        intro v' w6 hown' hgrow _
        obtain ⟨n1, n2⟩ := snocT hown.out hbr.out hgrow hown'
        have N := hid (And.intro n1 n2)
        clear hown' hgrow hown hbr c0 q0 n1 n2
        go_wp2
        go_roundw
        case rel => exact ⟨k + 1, by omega, by go_num, hid (by rw [hE.out]; exact N.out.1), hid N.out.2⟩
        case measure => simp [RowKit.intOf]; omega
      · have hke : k = ts.length := by omega
        have hA : Hid (TV wr 0 u3 (arrNames ts)) := hid (by have := (TV.of hown.out).low; rw [hke, List.take_of_length_le (Nat.le_refl _)] at this; exact this)
        have hAl : (arrNames ts).length ≤ 1048576 := by unfold arrNames; rw [List.length_map]; exact hn
        obtain ⟨xa, xc, rfl⟩ := hA.out.shape
        have q1 := keeps hbr.out (R1.out 1 _ rfl)
        have Bw := hid (B1.out.trans (hbr.out.mono B1.out.size))
        have Rw := hid (rangeAt_later R1.out hbr.out)
        clear hown hlen
        go_wp2_with fail
        refine (spec_VarsOf F (by omega) _ _ (Hv.out.later Bw.out)).mono ?_
        rintro e w2 ⟨vv, rfl, hvv, hb2⟩
        have V1 := hid hvv
        obtain ⟨ya, yc, rfl⟩ := hvv.shape
        have q2 := keeps hb2 q1
        have q2' := hid q2
        have B2 := hid (Bw.out.trans (hb2.mono Bw.out.size))
        have L2 := hid hb2
        clear hb2 hvv
        go_wp2_with fail
        refine (spec_LoopVars F (by omega) _ _ (Hv.out.later B2.out)).mono ?_
        rintro e w3 ⟨vl, rfl, hvl, hb3⟩
        have V2 := hid hvl
        obtain ⟨za, zc, rfl⟩ := hvl.shape
        have q3 := keeps hb3 q2'.out
        have q3' := hid q3
        have B3 := hid (B2.out.trans (hb3.mono B2.out.size))
        have L3 := hid hb3
        have q4 : ∀ o, (w3.alloc o).cell? ⟨w.heap.size, 1, Option.none⟩ = some (.slice vo (slen F) vcap) := fun o => keeps (aB _ _) q3'.out
        clear hb3 hvl
        go_wp2_with fail
        refine (l4Names_is 2 F [] _ _ _ (by simp; omega) (empty_row w3) ((Hv.out.later B3.out).later (aB _ _))).mono ?_
        rintro e w4 ⟨vp, rfl, hvp, hb4⟩
        have L4 := hid (below_alloc hb4)
        have V3 := hid hvp
        obtain ⟨pa, pc, rfl⟩ := hvp.shape
        have B4 := hid (B3.out.trans (L4.out.mono B3.out.size))
        have LA : Hid (Below wr.heap.size wr w4) := hid ((L2.out.trans (L3.out.mono L2.out.size)).trans (L4.out.mono (L2.out.trans (L3.out.mono L2.out.size)).size))
        have LV : Hid (Below w2.heap.size w2 w4) := hid (L3.out.trans (L4.out.mono L3.out.size))
        -- what each call makes, from whatever world
        obtain ⟨b1, H1⟩ : ∃ b, Hid (allArrs ts (nmS 2 F []) = b) := ⟨_, rfl⟩
        obtain ⟨b2, H2⟩ : ∃ b, Hid (allArrs ts (nmA 3 F []) = b) := ⟨_, rfl⟩
        obtain ⟨b3, H3⟩ : ∃ b, Hid (apart (arrNames ts) (nmS 1 F []) = b) := ⟨_, rfl⟩
        obtain ⟨b4, H4⟩ : ∃ b, Hid (apart (arrNames ts) (nmS 3 F []) = b) := ⟨_, rfl⟩
        obtain ⟨b5, H5⟩ : ∃ b, Hid (apart (arrNames ts) (nmA 2 F []) = b) := ⟨_, rfl⟩
        obtain ⟨b6, H6⟩ : ∃ b, Hid (apart (nmS 1 F []) (nmS 3 F []) = b) := ⟨_, rfl⟩
        obtain ⟨b7, H7⟩ : ∃ b, Hid (nestB F [] = b) := ⟨_, rfl⟩
        have EE := hid (show (b1 && (b2 && (b3 && (b4 && (b5 && (b6 && (b7 && decide ((nmS 1 F []).length ≤ 6)))))))) = A by rw [← H1.out, ← H2.out, ← H3.out, ← H4.out, ← H5.out, ← H6.out, ← H7.out]; exact E.out)
        have hl1 := nmS_len 1 F []
        have hl2 := nmS_len 2 F []
        have hl3 := nmS_len 3 F []
        have hl4 := nmA_lenE 3 F []
        have hl5 := nmA_lenE 2 F []
        simp only [List.length_nil, Nat.zero_add] at hl1 hl2 hl3 hl4 hl5
        have HAv := hid (Ha.out.later B4.out)
        have HSv := hid (Hv.out.later B4.out)
        have T0 := hid (hA.out.later LA.out)
        have T1 := hid (V1.out.later LV.out)
        have T2 := hid (V2.out.later L4.out)
        have R4 := hid (rangeAt_later Rw.out LA.out)
        have C1 : Hid (∀ w', Below w4.heap.size w4 w' → Calls Tryz.prog 65 #[.agg #[.slice ao ts.length cap, .slice vo (slen F) vcap], .slice pa (nmS 2 F []).length pc] w' fun e w'' => e = .returned (.bool b1) ∧ Below w'.heap.size w' w'') := fun w' hb => l4Arrs_is ts hn _ (by omega) b1 H1.out _ _ _ rfl w' (HAv.out.later hb) (V3.out.later hb)
        have C2 : Hid (∀ w' v, Below w4.heap.size w4 w' → TV w' 0 v [] → Calls Tryz.prog 66 #[v, .slice vo (slen F) vcap, .int .i64 3] w' fun e w'' => ∃ v', e = .returned v' ∧ TV w'' 0 v' (nmA 3 F []) ∧ Below w'.heap.size w' w'') := fun w' v hb hv => l4Exps_all 3 _ F (Nat.lt_succ_self _) [] w' v _ (by simp; omega) (by omega) hv (HSv.out.later hb)
        have C3 : Hid (∀ w' v, Below w4.heap.size w4 w' → TV w' 0 v (nmA 3 F []) → Calls Tryz.prog 65 #[.agg #[.slice ao ts.length cap, .slice vo (slen F) vcap], v] w' fun e w'' => e = .returned (.bool b2) ∧ Below w'.heap.size w' w'') := fun w' v hb hv => l4Arrs_is ts hn _ (by omega) b2 H2.out _ _ v rfl w' (HAv.out.later hb) hv
        have C4 : Hid (∀ w', Below w4.heap.size w4 w' → Calls Tryz.prog 67 #[.slice xa (arrNames ts).length xc, .slice ya (nmS 1 F []).length yc] w' fun e w'' => e = .returned (.bool b3) ∧ w' = w'') := fun w' hb => l4Apart_is _ _ (by omega) (by omega) b3 H3.out _ _ w' (T0.out.later hb) (T1.out.later hb)
        have C5 : Hid (∀ w', Below w4.heap.size w4 w' → Calls Tryz.prog 67 #[.slice xa (arrNames ts).length xc, .slice za (nmS 3 F []).length zc] w' fun e w'' => e = .returned (.bool b4) ∧ w' = w'') := fun w' hb => l4Apart_is _ _ (by omega) (by omega) b4 H4.out _ _ w' (T0.out.later hb) (T2.out.later hb)
        have C6 : Hid (∀ w', Below w4.heap.size w4 w' → Calls Tryz.prog 68 #[.slice vo (slen F) vcap] w' (SpecNames w' (nmA 2 F []))) := fun w' hb => spec_AskedE F (by omega) (by omega) w' _ (HSv.out.later hb)
        have C7 : Hid (∀ w' v, Below w4.heap.size w4 w' → TV w' 0 v (nmA 2 F []) → Calls Tryz.prog 67 #[.slice xa (arrNames ts).length xc, v] w' fun e w'' => e = .returned (.bool b5) ∧ w' = w'') := fun w' v hb hv => l4Apart_is _ _ (by omega) (by omega) b5 H5.out _ v w' (T0.out.later hb) hv
        have C8 : Hid (∀ w', Below w4.heap.size w4 w' → Calls Tryz.prog 67 #[.slice ya (nmS 1 F []).length yc, .slice za (nmS 3 F []).length zc] w' fun e w'' => e = .returned (.bool b6) ∧ w' = w'') := fun w' hb => l4Apart_is _ _ (by omega) (by omega) b6 H6.out _ _ w' (T1.out.later hb) (T2.out.later hb)
        have C9 : Hid (∀ w' v, Below w4.heap.size w4 w' → TS w' v [] → Calls Tryz.prog 69 #[.slice vo (slen F) vcap, v] w' fun e w'' => e = .returned (.bool b7) ∧ Below w'.heap.size w' w'') := fun w' v hb hv => by rw [← H7.out]; exact l4Nest_is F [] w' _ v (by simp; omega) (HSv.out.later hb) hv
        have bd : Below w4.heap.size w4 w4.drew := (Below.refl _ w4).drew
        clear hb4 hvp V1 V2 V3 L2 L3 L4 LA LV hA HAv HSv T0 T1 T2 H1 H2 H3 H4 H5 H6 H7 E B1 B2 B3 R1 Rw Bw Ha Hv
        go_wp2_with fail
        refine wp_region_held_drew (S := Below w4.heap.size w4) (by kernel_rfl) bd (fun hHeld => ?_)
        refine wpAnyH_take (i := 0) (v := .agg ([.slice ao ts.length cap, .slice vo (slen F) vcap]).toArray) rfl (by kernel_rfl) (by kernel_rfl) (by kernel_rfl) (fun _ _ _ => id) (yieldsIf_load_mid (by rfl) 27 _ rfl (w.heap.size) (0) rfl ([.slice ao ts.length cap, .slice vo (slen F) vcap]) _ (fun w h => rangeAt_later R4.out h) Tryz.underlying27 rfl sizeIP) hHeld ?_
        simp only [Act.put, zp]
        refine wpAnyH_take (i := 1) (v := .slice pa (nmS 2 F []).length pc) rfl (by kernel_rfl) (by kernel_rfl) (by kernel_rfl) (fun _ _ _ => id) (Or.inl ⟨by rfl, ?ys1⟩) hHeld ?_
        case ys1 => intro w hSw; go_simp
        simp only [Act.put, zp]
        refine wpAnyH_ready (rs := [2]) (by kernel_rfl) (by simp) ?_
        refine AllReadyH.cons rfl (fun K hK => ?_) AllReadyH.nil
        rw [if_pos (by rfl)]
        simp only [zq]
        go_wp2_with fail
        refine (C1.out _ hHeld).mono ?_
        rintro e w5 ⟨rfl, hb5⟩
        go_wp2_with fail
        refine hK.out _ _ (hHeld.trans (hb5.mono hHeld.size)) (fun hHeld => ?_)
        cases b1 with
        | false =>
          refine wpAnyH_take (i := 3) (v := .bool false) rfl (by kernel_rfl) (by kernel_rfl) (by kernel_rfl) (fun _ _ _ => id) (Or.inl ⟨by rfl, ?yb1f3⟩) hHeld ?_
          case yb1f3 => intro w hSw; go_simp
          simp only [Act.put, zp]
          refine wpAnyH_take (i := 4) (v := undef) rfl (by kernel_rfl) (by kernel_rfl) (by kernel_rfl) (fun _ _ _ => id) (Or.inr ⟨by rfl, rfl⟩) hHeld ?_
          simp only [Act.put, zp]
          refine wpAnyH_take (i := 5) (v := undef) rfl (by kernel_rfl) (by kernel_rfl) (by kernel_rfl) (fun _ _ _ => id) (Or.inr ⟨by rfl, rfl⟩) hHeld ?_
          simp only [Act.put, zp]
          refine wpAnyH_take (i := 6) (v := undef) rfl (by kernel_rfl) (by kernel_rfl) (by kernel_rfl) (fun _ _ _ => id) (Or.inr ⟨by rfl, rfl⟩) hHeld ?_
          simp only [Act.put, zp]
          refine wpAnyH_take (i := 7) (v := undef) rfl (by kernel_rfl) (by kernel_rfl) (by kernel_rfl) (fun _ _ _ => id) (Or.inr ⟨by rfl, rfl⟩) hHeld ?_
          simp only [Act.put, zp]
          refine wpAnyH_take (i := 8) (v := undef) rfl (by kernel_rfl) (by kernel_rfl) (by kernel_rfl) (fun _ _ _ => id) (Or.inr ⟨by rfl, rfl⟩) hHeld ?_
          simp only [Act.put, zp]
          refine wpAnyH_take (i := 9) (v := undef) rfl (by kernel_rfl) (by kernel_rfl) (by kernel_rfl) (fun _ _ _ => id) (Or.inr ⟨by rfl, rfl⟩) hHeld ?_
          simp only [Act.put, zp]
          refine wpAnyH_take (i := 10) (v := .bool false) rfl (by kernel_rfl) (by kernel_rfl) (by kernel_rfl) (fun _ _ _ => id) (Or.inl ⟨by rfl, ?yb1f10⟩) hHeld ?_
          case yb1f10 => intro w hSw; go_simp
          simp only [Act.put, zp]
          refine wpAnyH_take (i := 11) (v := .bool false) rfl (by kernel_rfl) (by kernel_rfl) (by kernel_rfl) (fun _ _ _ => id) (Or.inl ⟨by rfl, ?yb1f11⟩) hHeld ?_
          case yb1f11 => intro w hSw; go_simp
          simp only [Act.put, zp]
          refine wpAnyH_take (i := 12) (v := undef) rfl (by kernel_rfl) (by kernel_rfl) (by kernel_rfl) (fun _ _ _ => id) (Or.inr ⟨by rfl, rfl⟩) hHeld ?_
          simp only [Act.put, zp]
          refine wpAnyH_take (i := 13) (v := undef) rfl (by kernel_rfl) (by kernel_rfl) (by kernel_rfl) (fun _ _ _ => id) (Or.inr ⟨by rfl, rfl⟩) hHeld ?_
          simp only [Act.put, zp]
          refine wpAnyH_take (i := 14) (v := undef) rfl (by kernel_rfl) (by kernel_rfl) (by kernel_rfl) (fun _ _ _ => id) (Or.inr ⟨by rfl, rfl⟩) hHeld ?_
          simp only [Act.put, zp]
          refine wpAnyH_take (i := 15) (v := .bool false) rfl (by kernel_rfl) (by kernel_rfl) (by kernel_rfl) (fun _ _ _ => id) (Or.inl ⟨by rfl, ?yb1f15⟩) hHeld ?_
          case yb1f15 => intro w hSw; go_simp
          simp only [Act.put, zp]
          refine wpAnyH_take (i := 16) (v := .bool false) rfl (by kernel_rfl) (by kernel_rfl) (by kernel_rfl) (fun _ _ _ => id) (Or.inl ⟨by rfl, ?yb1f16⟩) hHeld ?_
          case yb1f16 => intro w hSw; go_simp
          simp only [Act.put, zp]
          refine wpAnyH_take (i := 17) (v := undef) rfl (by kernel_rfl) (by kernel_rfl) (by kernel_rfl) (fun _ _ _ => id) (Or.inr ⟨by rfl, rfl⟩) hHeld ?_
          simp only [Act.put, zp]
          refine wpAnyH_take (i := 18) (v := undef) rfl (by kernel_rfl) (by kernel_rfl) (by kernel_rfl) (fun _ _ _ => id) (Or.inr ⟨by rfl, rfl⟩) hHeld ?_
          simp only [Act.put, zp]
          refine wpAnyH_take (i := 19) (v := undef) rfl (by kernel_rfl) (by kernel_rfl) (by kernel_rfl) (fun _ _ _ => id) (Or.inr ⟨by rfl, rfl⟩) hHeld ?_
          simp only [Act.put, zp]
          refine wpAnyH_take (i := 20) (v := .bool false) rfl (by kernel_rfl) (by kernel_rfl) (by kernel_rfl) (fun _ _ _ => id) (Or.inl ⟨by rfl, ?yb1f20⟩) hHeld ?_
          case yb1f20 => intro w hSw; go_simp
          simp only [Act.put, zp]
          refine wpAnyH_take (i := 21) (v := .bool false) rfl (by kernel_rfl) (by kernel_rfl) (by kernel_rfl) (fun _ _ _ => id) (Or.inl ⟨by rfl, ?yb1f21⟩) hHeld ?_
          case yb1f21 => intro w hSw; go_simp
          simp only [Act.put, zp]
          refine wpAnyH_take (i := 22) (v := undef) rfl (by kernel_rfl) (by kernel_rfl) (by kernel_rfl) (fun _ _ _ => id) (Or.inr ⟨by rfl, rfl⟩) hHeld ?_
          simp only [Act.put, zp]
          refine wpAnyH_take (i := 23) (v := undef) rfl (by kernel_rfl) (by kernel_rfl) (by kernel_rfl) (fun _ _ _ => id) (Or.inr ⟨by rfl, rfl⟩) hHeld ?_
          simp only [Act.put, zp]
          refine wpAnyH_take (i := 24) (v := undef) rfl (by kernel_rfl) (by kernel_rfl) (by kernel_rfl) (fun _ _ _ => id) (Or.inr ⟨by rfl, rfl⟩) hHeld ?_
          simp only [Act.put, zp]
          refine wpAnyH_take (i := 25) (v := undef) rfl (by kernel_rfl) (by kernel_rfl) (by kernel_rfl) (fun _ _ _ => id) (Or.inr ⟨by rfl, rfl⟩) hHeld ?_
          simp only [Act.put, zp]
          refine wpAnyH_take (i := 26) (v := undef) rfl (by kernel_rfl) (by kernel_rfl) (by kernel_rfl) (fun _ _ _ => id) (Or.inr ⟨by rfl, rfl⟩) hHeld ?_
          simp only [Act.put, zp]
          refine wpAnyH_take (i := 27) (v := .bool false) rfl (by kernel_rfl) (by kernel_rfl) (by kernel_rfl) (fun _ _ _ => id) (Or.inl ⟨by rfl, ?yb1f27⟩) hHeld ?_
          case yb1f27 => intro w hSw; go_simp
          simp only [Act.put, zp]
          refine wpAnyH_take (i := 28) (v := .bool false) rfl (by kernel_rfl) (by kernel_rfl) (by kernel_rfl) (fun _ _ _ => id) (Or.inl ⟨by rfl, ?yb1f28⟩) hHeld ?_
          case yb1f28 => intro w hSw; go_simp
          simp only [Act.put, zp]
          refine wpAnyH_take (i := 29) (v := undef) rfl (by kernel_rfl) (by kernel_rfl) (by kernel_rfl) (fun _ _ _ => id) (Or.inr ⟨by rfl, rfl⟩) hHeld ?_
          simp only [Act.put, zp]
          refine wpAnyH_take (i := 30) (v := undef) rfl (by kernel_rfl) (by kernel_rfl) (by kernel_rfl) (fun _ _ _ => id) (Or.inr ⟨by rfl, rfl⟩) hHeld ?_
          simp only [Act.put, zp]
          refine wpAnyH_take (i := 31) (v := undef) rfl (by kernel_rfl) (by kernel_rfl) (by kernel_rfl) (fun _ _ _ => id) (Or.inr ⟨by rfl, rfl⟩) hHeld ?_
          simp only [Act.put, zp]
          refine wpAnyH_take (i := 32) (v := .bool false) rfl (by kernel_rfl) (by kernel_rfl) (by kernel_rfl) (fun _ _ _ => id) (Or.inl ⟨by rfl, ?yb1f32⟩) hHeld ?_
          case yb1f32 => intro w hSw; go_simp
          simp only [Act.put, zp]
          refine wpAnyH_take (i := 33) (v := .bool false) rfl (by kernel_rfl) (by kernel_rfl) (by kernel_rfl) (fun _ _ _ => id) (Or.inl ⟨by rfl, ?yb1f33⟩) hHeld ?_
          case yb1f33 => intro w hSw; go_simp
          simp only [Act.put, zp]
          refine wpAnyH_take (i := 34) (v := undef) rfl (by kernel_rfl) (by kernel_rfl) (by kernel_rfl) (fun _ _ _ => id) (Or.inr ⟨by rfl, rfl⟩) hHeld ?_
          simp only [Act.put, zp]
          refine wpAnyH_take (i := 35) (v := undef) rfl (by kernel_rfl) (by kernel_rfl) (by kernel_rfl) (fun _ _ _ => id) (Or.inr ⟨by rfl, rfl⟩) hHeld ?_
          simp only [Act.put, zp]
          refine wpAnyH_take (i := 36) (v := undef) rfl (by kernel_rfl) (by kernel_rfl) (by kernel_rfl) (fun _ _ _ => id) (Or.inr ⟨by rfl, rfl⟩) hHeld ?_
          simp only [Act.put, zp]
          refine wpAnyH_take (i := 37) (v := undef) rfl (by kernel_rfl) (by kernel_rfl) (by kernel_rfl) (fun _ _ _ => id) (Or.inr ⟨by rfl, rfl⟩) hHeld ?_
          simp only [Act.put, zp]
          refine wpAnyH_take (i := 38) (v := .bool false) rfl (by kernel_rfl) (by kernel_rfl) (by kernel_rfl) (fun _ _ _ => id) (Or.inl ⟨by rfl, ?yb1f38⟩) hHeld ?_
          case yb1f38 => intro w hSw; go_simp
          simp only [Act.put, zp]
          refine wpAnyH_take (i := 39) (v := .bool false) rfl (by kernel_rfl) (by kernel_rfl) (by kernel_rfl) (fun _ _ _ => id) (Or.inl ⟨by rfl, ?yb1f39⟩) hHeld ?_
          case yb1f39 => intro w hSw; go_simp
          simp only [Act.put, zp]
          refine wpAnyH_take (i := 40) (v := undef) rfl (by kernel_rfl) (by kernel_rfl) (by kernel_rfl) (fun _ _ _ => id) (Or.inr ⟨by rfl, rfl⟩) hHeld ?_
          simp only [Act.put, zp]
          refine wpAnyH_take (i := 41) (v := undef) rfl (by kernel_rfl) (by kernel_rfl) (by kernel_rfl) (fun _ _ _ => id) (Or.inr ⟨by rfl, rfl⟩) hHeld ?_
          simp only [Act.put, zp]
          refine wpAnyH_take (i := 42) (v := undef) rfl (by kernel_rfl) (by kernel_rfl) (by kernel_rfl) (fun _ _ _ => id) (Or.inr ⟨by rfl, rfl⟩) hHeld ?_
          simp only [Act.put, zp]
          refine wpAnyH_take (i := 43) (v := .bool false) rfl (by kernel_rfl) (by kernel_rfl) (by kernel_rfl) (fun _ _ _ => id) (Or.inl ⟨by rfl, ?yb1f43⟩) hHeld ?_
          case yb1f43 => intro w hSw; go_simp
          simp only [Act.put, zp]
          refine wpAnyH_take (i := 44) (v := .bool false) rfl (by kernel_rfl) (by kernel_rfl) (by kernel_rfl) (fun _ _ _ => id) (Or.inl ⟨by rfl, ?yb1f44⟩) hHeld ?_
          case yb1f44 => intro w hSw; go_simp
          simp only [Act.put, zp]
          refine wpAnyH_done (by kernel_rfl) ?_ _
          have EF := hid (show false = A from (and_f EE.out rfl).symm)
          have BB := hid (B4.out.trans (hHeld.mono B4.out.size))
          clear hHeld bd
          go_wp2
          go_ret
          exact ⟨ret_bool EF.out, BB.out⟩
        | true =>
          have EE1 := hid (and_t EE.out rfl)
          clear EE
          refine wpAnyH_take (i := 3) (v := .bool true) rfl (by kernel_rfl) (by kernel_rfl) (by kernel_rfl) (fun _ _ _ => id) (Or.inl ⟨by rfl, ?ys3⟩) hHeld ?_
          case ys3 => intro w hSw; go_simp
          simp only [Act.put, zp]
          refine wpAnyH_take (i := 4) (v := .agg ([.slice ao ts.length cap, .slice vo (slen F) vcap]).toArray) rfl (by kernel_rfl) (by kernel_rfl) (by kernel_rfl) (fun _ _ _ => id) (yieldsIf_load_mid (by rfl) 27 _ rfl (w.heap.size) (0) rfl ([.slice ao ts.length cap, .slice vo (slen F) vcap]) _ (fun w h => rangeAt_later R4.out h) Tryz.underlying27 rfl sizeIP) hHeld ?_
          simp only [Act.put, zp]
          refine wpAnyH_take (i := 6) (v := .pointer (some ⟨w.heap.size, 1, Option.none⟩)) rfl (by kernel_rfl) (by kernel_rfl) (by kernel_rfl) (fun _ _ _ => id) (Or.inl ⟨by rfl, ?ys6⟩) hHeld ?_
          case ys6 => intro w hSw; go_simp
          simp only [Act.put, zp]
          refine wpAnyH_take (i := 7) (v := .slice vo (slen F) vcap) rfl (by kernel_rfl) (by kernel_rfl) (by kernel_rfl) (fun _ _ _ => id) (Or.inl ⟨by rfl, ?ys7⟩) hHeld ?_
          case ys7 => intro w hSw; have q := rangeAt_later R4.out hSw 1 _ rfl; go_simp
          simp only [Act.put, zp]
          refine wpAnyH_ready (rs := [5]) (by kernel_rfl) (by simp) ?_
          refine AllReadyH.cons rfl (fun K hK => ?_) AllReadyH.nil
          rw [if_pos (by rfl)]
          simp only [zq]
          go_wp2_with fail
          refine hK.out _ _ (hHeld.alloc hHeld.size _) (fun hHeld => ?_)
          try simp only [Act.put, zp]
          refine wpAnyH_ready (rs := [8]) (by kernel_rfl) (by simp) ?_
          refine AllReadyH.cons rfl (fun K hK => ?_) AllReadyH.nil
          rw [if_pos (by rfl)]
          simp only [zq]
          go_wp2_with fail
          refine (C2.out _ _ hHeld (TS.made w5 _).tv).mono ?_
          rintro e w6 ⟨v6, rfl, hv6, hb6⟩
          have V6 := hid hv6
          clear hv6
          go_wp2_with fail
          refine hK.out _ _ (hHeld.trans (hb6.mono hHeld.size)) (fun hHeld => ?_)
          refine wpAnyH_ready (rs := [9]) (by kernel_rfl) (by simp) ?_
          refine AllReadyH.cons rfl (fun K hK => ?_) AllReadyH.nil
          rw [if_pos (by rfl)]
          simp only [zq]
          go_wp2_with fail
          refine (C3.out _ _ hHeld V6.out).mono ?_
          rintro e w7 ⟨rfl, hb7⟩
          go_wp2_with fail
          refine hK.out _ _ (hHeld.trans (hb7.mono hHeld.size)) (fun hHeld => ?_)
          cases b2 with
          | false =>
            refine wpAnyH_take (i := 10) (v := .bool false) rfl (by kernel_rfl) (by kernel_rfl) (by kernel_rfl) (fun _ _ _ => id) (Or.inl ⟨by rfl, ?yb2f10⟩) hHeld ?_
            case yb2f10 => intro w hSw; go_simp
            simp only [Act.put, zp]
            refine wpAnyH_take (i := 11) (v := .bool false) rfl (by kernel_rfl) (by kernel_rfl) (by kernel_rfl) (fun _ _ _ => id) (Or.inl ⟨by rfl, ?yb2f11⟩) hHeld ?_
            case yb2f11 => intro w hSw; go_simp
            simp only [Act.put, zp]
            refine wpAnyH_take (i := 12) (v := undef) rfl (by kernel_rfl) (by kernel_rfl) (by kernel_rfl) (fun _ _ _ => id) (Or.inr ⟨by rfl, rfl⟩) hHeld ?_
            simp only [Act.put, zp]
            refine wpAnyH_take (i := 13) (v := undef) rfl (by kernel_rfl) (by kernel_rfl) (by kernel_rfl) (fun _ _ _ => id) (Or.inr ⟨by rfl, rfl⟩) hHeld ?_
            simp only [Act.put, zp]
            refine wpAnyH_take (i := 14) (v := undef) rfl (by kernel_rfl) (by kernel_rfl) (by kernel_rfl) (fun _ _ _ => id) (Or.inr ⟨by rfl, rfl⟩) hHeld ?_
            simp only [Act.put, zp]
            refine wpAnyH_take (i := 15) (v := .bool false) rfl (by kernel_rfl) (by kernel_rfl) (by kernel_rfl) (fun _ _ _ => id) (Or.inl ⟨by rfl, ?yb2f15⟩) hHeld ?_
            case yb2f15 => intro w hSw; go_simp
            simp only [Act.put, zp]
            refine wpAnyH_take (i := 16) (v := .bool false) rfl (by kernel_rfl) (by kernel_rfl) (by kernel_rfl) (fun _ _ _ => id) (Or.inl ⟨by rfl, ?yb2f16⟩) hHeld ?_
            case yb2f16 => intro w hSw; go_simp
            simp only [Act.put, zp]
            refine wpAnyH_take (i := 17) (v := undef) rfl (by kernel_rfl) (by kernel_rfl) (by kernel_rfl) (fun _ _ _ => id) (Or.inr ⟨by rfl, rfl⟩) hHeld ?_
            simp only [Act.put, zp]
            refine wpAnyH_take (i := 18) (v := undef) rfl (by kernel_rfl) (by kernel_rfl) (by kernel_rfl) (fun _ _ _ => id) (Or.inr ⟨by rfl, rfl⟩) hHeld ?_
            simp only [Act.put, zp]
            refine wpAnyH_take (i := 19) (v := undef) rfl (by kernel_rfl) (by kernel_rfl) (by kernel_rfl) (fun _ _ _ => id) (Or.inr ⟨by rfl, rfl⟩) hHeld ?_
            simp only [Act.put, zp]
            refine wpAnyH_take (i := 20) (v := .bool false) rfl (by kernel_rfl) (by kernel_rfl) (by kernel_rfl) (fun _ _ _ => id) (Or.inl ⟨by rfl, ?yb2f20⟩) hHeld ?_
            case yb2f20 => intro w hSw; go_simp
            simp only [Act.put, zp]
            refine wpAnyH_take (i := 21) (v := .bool false) rfl (by kernel_rfl) (by kernel_rfl) (by kernel_rfl) (fun _ _ _ => id) (Or.inl ⟨by rfl, ?yb2f21⟩) hHeld ?_
            case yb2f21 => intro w hSw; go_simp
            simp only [Act.put, zp]
            refine wpAnyH_take (i := 22) (v := undef) rfl (by kernel_rfl) (by kernel_rfl) (by kernel_rfl) (fun _ _ _ => id) (Or.inr ⟨by rfl, rfl⟩) hHeld ?_
            simp only [Act.put, zp]
            refine wpAnyH_take (i := 23) (v := undef) rfl (by kernel_rfl) (by kernel_rfl) (by kernel_rfl) (fun _ _ _ => id) (Or.inr ⟨by rfl, rfl⟩) hHeld ?_
            simp only [Act.put, zp]
            refine wpAnyH_take (i := 24) (v := undef) rfl (by kernel_rfl) (by kernel_rfl) (by kernel_rfl) (fun _ _ _ => id) (Or.inr ⟨by rfl, rfl⟩) hHeld ?_
            simp only [Act.put, zp]
            refine wpAnyH_take (i := 25) (v := undef) rfl (by kernel_rfl) (by kernel_rfl) (by kernel_rfl) (fun _ _ _ => id) (Or.inr ⟨by rfl, rfl⟩) hHeld ?_
            simp only [Act.put, zp]
            refine wpAnyH_take (i := 26) (v := undef) rfl (by kernel_rfl) (by kernel_rfl) (by kernel_rfl) (fun _ _ _ => id) (Or.inr ⟨by rfl, rfl⟩) hHeld ?_
            simp only [Act.put, zp]
            refine wpAnyH_take (i := 27) (v := .bool false) rfl (by kernel_rfl) (by kernel_rfl) (by kernel_rfl) (fun _ _ _ => id) (Or.inl ⟨by rfl, ?yb2f27⟩) hHeld ?_
            case yb2f27 => intro w hSw; go_simp
            simp only [Act.put, zp]
            refine wpAnyH_take (i := 28) (v := .bool false) rfl (by kernel_rfl) (by kernel_rfl) (by kernel_rfl) (fun _ _ _ => id) (Or.inl ⟨by rfl, ?yb2f28⟩) hHeld ?_
            case yb2f28 => intro w hSw; go_simp
            simp only [Act.put, zp]
            refine wpAnyH_take (i := 29) (v := undef) rfl (by kernel_rfl) (by kernel_rfl) (by kernel_rfl) (fun _ _ _ => id) (Or.inr ⟨by rfl, rfl⟩) hHeld ?_
            simp only [Act.put, zp]
            refine wpAnyH_take (i := 30) (v := undef) rfl (by kernel_rfl) (by kernel_rfl) (by kernel_rfl) (fun _ _ _ => id) (Or.inr ⟨by rfl, rfl⟩) hHeld ?_
            simp only [Act.put, zp]
            refine wpAnyH_take (i := 31) (v := undef) rfl (by kernel_rfl) (by kernel_rfl) (by kernel_rfl) (fun _ _ _ => id) (Or.inr ⟨by rfl, rfl⟩) hHeld ?_
            simp only [Act.put, zp]
            refine wpAnyH_take (i := 32) (v := .bool false) rfl (by kernel_rfl) (by kernel_rfl) (by kernel_rfl) (fun _ _ _ => id) (Or.inl ⟨by rfl, ?yb2f32⟩) hHeld ?_
            case yb2f32 => intro w hSw; go_simp
            simp only [Act.put, zp]
            refine wpAnyH_take (i := 33) (v := .bool false) rfl (by kernel_rfl) (by kernel_rfl) (by kernel_rfl) (fun _ _ _ => id) (Or.inl ⟨by rfl, ?yb2f33⟩) hHeld ?_
            case yb2f33 => intro w hSw; go_simp
            simp only [Act.put, zp]
            refine wpAnyH_take (i := 34) (v := undef) rfl (by kernel_rfl) (by kernel_rfl) (by kernel_rfl) (fun _ _ _ => id) (Or.inr ⟨by rfl, rfl⟩) hHeld ?_
            simp only [Act.put, zp]
            refine wpAnyH_take (i := 35) (v := undef) rfl (by kernel_rfl) (by kernel_rfl) (by kernel_rfl) (fun _ _ _ => id) (Or.inr ⟨by rfl, rfl⟩) hHeld ?_
            simp only [Act.put, zp]
            refine wpAnyH_take (i := 36) (v := undef) rfl (by kernel_rfl) (by kernel_rfl) (by kernel_rfl) (fun _ _ _ => id) (Or.inr ⟨by rfl, rfl⟩) hHeld ?_
            simp only [Act.put, zp]
            refine wpAnyH_take (i := 37) (v := undef) rfl (by kernel_rfl) (by kernel_rfl) (by kernel_rfl) (fun _ _ _ => id) (Or.inr ⟨by rfl, rfl⟩) hHeld ?_
            simp only [Act.put, zp]
            refine wpAnyH_take (i := 38) (v := .bool false) rfl (by kernel_rfl) (by kernel_rfl) (by kernel_rfl) (fun _ _ _ => id) (Or.inl ⟨by rfl, ?yb2f38⟩) hHeld ?_
            case yb2f38 => intro w hSw; go_simp
            simp only [Act.put, zp]
            refine wpAnyH_take (i := 39) (v := .bool false) rfl (by kernel_rfl) (by kernel_rfl) (by kernel_rfl) (fun _ _ _ => id) (Or.inl ⟨by rfl, ?yb2f39⟩) hHeld ?_
            case yb2f39 => intro w hSw; go_simp
            simp only [Act.put, zp]
            refine wpAnyH_take (i := 40) (v := undef) rfl (by kernel_rfl) (by kernel_rfl) (by kernel_rfl) (fun _ _ _ => id) (Or.inr ⟨by rfl, rfl⟩) hHeld ?_
            simp only [Act.put, zp]
            refine wpAnyH_take (i := 41) (v := undef) rfl (by kernel_rfl) (by kernel_rfl) (by kernel_rfl) (fun _ _ _ => id) (Or.inr ⟨by rfl, rfl⟩) hHeld ?_
            simp only [Act.put, zp]
            refine wpAnyH_take (i := 42) (v := undef) rfl (by kernel_rfl) (by kernel_rfl) (by kernel_rfl) (fun _ _ _ => id) (Or.inr ⟨by rfl, rfl⟩) hHeld ?_
            simp only [Act.put, zp]
            refine wpAnyH_take (i := 43) (v := .bool false) rfl (by kernel_rfl) (by kernel_rfl) (by kernel_rfl) (fun _ _ _ => id) (Or.inl ⟨by rfl, ?yb2f43⟩) hHeld ?_
            case yb2f43 => intro w hSw; go_simp
            simp only [Act.put, zp]
            refine wpAnyH_take (i := 44) (v := .bool false) rfl (by kernel_rfl) (by kernel_rfl) (by kernel_rfl) (fun _ _ _ => id) (Or.inl ⟨by rfl, ?yb2f44⟩) hHeld ?_
            case yb2f44 => intro w hSw; go_simp
            simp only [Act.put, zp]
            refine wpAnyH_done (by kernel_rfl) ?_ _
            have EF := hid (show false = A from (and_f EE1.out rfl).symm)
            have BB := hid (B4.out.trans (hHeld.mono B4.out.size))
            clear hHeld bd
            go_wp2
            go_ret
            exact ⟨ret_bool EF.out, BB.out⟩
          | true =>
            have EE2 := hid (and_t EE1.out rfl)
            clear EE1
            refine wpAnyH_take (i := 10) (v := .bool true) rfl (by kernel_rfl) (by kernel_rfl) (by kernel_rfl) (fun _ _ _ => id) (Or.inl ⟨by rfl, ?ys10⟩) hHeld ?_
            case ys10 => intro w hSw; go_simp
            simp only [Act.put, zp]
            refine wpAnyH_take (i := 11) (v := .bool true) rfl (by kernel_rfl) (by kernel_rfl) (by kernel_rfl) (fun _ _ _ => id) (Or.inl ⟨by rfl, ?ys11⟩) hHeld ?_
            case ys11 => intro w hSw; go_simp
            simp only [Act.put, zp]
            refine wpAnyH_take (i := 12) (v := .slice xa (arrNames ts).length xc) rfl (by kernel_rfl) (by kernel_rfl) (by kernel_rfl) (fun _ _ _ => id) (Or.inl ⟨by rfl, ?ys12⟩) hHeld ?_
            case ys12 => intro w hSw; go_simp
            simp only [Act.put, zp]
            refine wpAnyH_take (i := 13) (v := .slice ya (nmS 1 F []).length yc) rfl (by kernel_rfl) (by kernel_rfl) (by kernel_rfl) (fun _ _ _ => id) (Or.inl ⟨by rfl, ?ys13⟩) hHeld ?_
            case ys13 => intro w hSw; go_simp
            simp only [Act.put, zp]
            refine wpAnyH_ready (rs := [14]) (by kernel_rfl) (by simp) ?_
            refine AllReadyH.cons rfl (fun K hK => ?_) AllReadyH.nil
            rw [if_pos (by rfl)]
            simp only [zq]
            go_wp2_with fail
            refine (C4.out _ hHeld).mono ?_
            rintro e w8 ⟨rfl, rfl⟩
            go_wp2_with fail
            refine hK.out _ _ (hHeld) (fun hHeld => ?_)
            cases b3 with
            | false =>
              refine wpAnyH_take (i := 15) (v := .bool false) rfl (by kernel_rfl) (by kernel_rfl) (by kernel_rfl) (fun _ _ _ => id) (Or.inl ⟨by rfl, ?yb3f15⟩) hHeld ?_
              case yb3f15 => intro w hSw; go_simp
              simp only [Act.put, zp]
              refine wpAnyH_take (i := 16) (v := .bool false) rfl (by kernel_rfl) (by kernel_rfl) (by kernel_rfl) (fun _ _ _ => id) (Or.inl ⟨by rfl, ?yb3f16⟩) hHeld ?_
              case yb3f16 => intro w hSw; go_simp
              simp only [Act.put, zp]
              refine wpAnyH_take (i := 17) (v := undef) rfl (by kernel_rfl) (by kernel_rfl) (by kernel_rfl) (fun _ _ _ => id) (Or.inr ⟨by rfl, rfl⟩) hHeld ?_
              simp only [Act.put, zp]
              refine wpAnyH_take (i := 18) (v := undef) rfl (by kernel_rfl) (by kernel_rfl) (by kernel_rfl) (fun _ _ _ => id) (Or.inr ⟨by rfl, rfl⟩) hHeld ?_
              simp only [Act.put, zp]
              refine wpAnyH_take (i := 19) (v := undef) rfl (by kernel_rfl) (by kernel_rfl) (by kernel_rfl) (fun _ _ _ => id) (Or.inr ⟨by rfl, rfl⟩) hHeld ?_
              simp only [Act.put, zp]
              refine wpAnyH_take (i := 20) (v := .bool false) rfl (by kernel_rfl) (by kernel_rfl) (by kernel_rfl) (fun _ _ _ => id) (Or.inl ⟨by rfl, ?yb3f20⟩) hHeld ?_
              case yb3f20 => intro w hSw; go_simp
              simp only [Act.put, zp]
              refine wpAnyH_take (i := 21) (v := .bool false) rfl (by kernel_rfl) (by kernel_rfl) (by kernel_rfl) (fun _ _ _ => id) (Or.inl ⟨by rfl, ?yb3f21⟩) hHeld ?_
              case yb3f21 => intro w hSw; go_simp
              simp only [Act.put, zp]
              refine wpAnyH_take (i := 22) (v := undef) rfl (by kernel_rfl) (by kernel_rfl) (by kernel_rfl) (fun _ _ _ => id) (Or.inr ⟨by rfl, rfl⟩) hHeld ?_
              simp only [Act.put, zp]
              refine wpAnyH_take (i := 23) (v := undef) rfl (by kernel_rfl) (by kernel_rfl) (by kernel_rfl) (fun _ _ _ => id) (Or.inr ⟨by rfl, rfl⟩) hHeld ?_
              simp only [Act.put, zp]
              refine wpAnyH_take (i := 24) (v := undef) rfl (by kernel_rfl) (by kernel_rfl) (by kernel_rfl) (fun _ _ _ => id) (Or.inr ⟨by rfl, rfl⟩) hHeld ?_
              simp only [Act.put, zp]
              refine wpAnyH_take (i := 25) (v := undef) rfl (by kernel_rfl) (by kernel_rfl) (by kernel_rfl) (fun _ _ _ => id) (Or.inr ⟨by rfl, rfl⟩) hHeld ?_
              simp only [Act.put, zp]
              refine wpAnyH_take (i := 26) (v := undef) rfl (by kernel_rfl) (by kernel_rfl) (by kernel_rfl) (fun _ _ _ => id) (Or.inr ⟨by rfl, rfl⟩) hHeld ?_
              simp only [Act.put, zp]
              refine wpAnyH_take (i := 27) (v := .bool false) rfl (by kernel_rfl) (by kernel_rfl) (by kernel_rfl) (fun _ _ _ => id) (Or.inl ⟨by rfl, ?yb3f27⟩) hHeld ?_
              case yb3f27 => intro w hSw; go_simp
              simp only [Act.put, zp]
              refine wpAnyH_take (i := 28) (v := .bool false) rfl (by kernel_rfl) (by kernel_rfl) (by kernel_rfl) (fun _ _ _ => id) (Or.inl ⟨by rfl, ?yb3f28⟩) hHeld ?_
              case yb3f28 => intro w hSw; go_simp
              simp only [Act.put, zp]
              refine wpAnyH_take (i := 29) (v := undef) rfl (by kernel_rfl) (by kernel_rfl) (by kernel_rfl) (fun _ _ _ => id) (Or.inr ⟨by rfl, rfl⟩) hHeld ?_
              simp only [Act.put, zp]
              refine wpAnyH_take (i := 30) (v := undef) rfl (by kernel_rfl) (by kernel_rfl) (by kernel_rfl) (fun _ _ _ => id) (Or.inr ⟨by rfl, rfl⟩) hHeld ?_
              simp only [Act.put, zp]
              refine wpAnyH_take (i := 31) (v := undef) rfl (by kernel_rfl) (by kernel_rfl) (by kernel_rfl) (fun _ _ _ => id) (Or.inr ⟨by rfl, rfl⟩) hHeld ?_
              simp only [Act.put, zp]
              refine wpAnyH_take (i := 32) (v := .bool false) rfl (by kernel_rfl) (by kernel_rfl) (by kernel_rfl) (fun _ _ _ => id) (Or.inl ⟨by rfl, ?yb3f32⟩) hHeld ?_
              case yb3f32 => intro w hSw; go_simp
              simp only [Act.put, zp]
              refine wpAnyH_take (i := 33) (v := .bool false) rfl (by kernel_rfl) (by kernel_rfl) (by kernel_rfl) (fun _ _ _ => id) (Or.inl ⟨by rfl, ?yb3f33⟩) hHeld ?_
              case yb3f33 => intro w hSw; go_simp
              simp only [Act.put, zp]
              refine wpAnyH_take (i := 34) (v := undef) rfl (by kernel_rfl) (by kernel_rfl) (by kernel_rfl) (fun _ _ _ => id) (Or.inr ⟨by rfl, rfl⟩) hHeld ?_
              simp only [Act.put, zp]
              refine wpAnyH_take (i := 35) (v := undef) rfl (by kernel_rfl) (by kernel_rfl) (by kernel_rfl) (fun _ _ _ => id) (Or.inr ⟨by rfl, rfl⟩) hHeld ?_
              simp only [Act.put, zp]
              refine wpAnyH_take (i := 36) (v := undef) rfl (by kernel_rfl) (by kernel_rfl) (by kernel_rfl) (fun _ _ _ => id) (Or.inr ⟨by rfl, rfl⟩) hHeld ?_
              simp only [Act.put, zp]
              refine wpAnyH_take (i := 37) (v := undef) rfl (by kernel_rfl) (by kernel_rfl) (by kernel_rfl) (fun _ _ _ => id) (Or.inr ⟨by rfl, rfl⟩) hHeld ?_
              simp only [Act.put, zp]
              refine wpAnyH_take (i := 38) (v := .bool false) rfl (by kernel_rfl) (by kernel_rfl) (by kernel_rfl) (fun _ _ _ => id) (Or.inl ⟨by rfl, ?yb3f38⟩) hHeld ?_
              case yb3f38 => intro w hSw; go_simp
              simp only [Act.put, zp]
              refine wpAnyH_take (i := 39) (v := .bool false) rfl (by kernel_rfl) (by kernel_rfl) (by kernel_rfl) (fun _ _ _ => id) (Or.inl ⟨by rfl, ?yb3f39⟩) hHeld ?_
              case yb3f39 => intro w hSw; go_simp
              simp only [Act.put, zp]
              refine wpAnyH_take (i := 40) (v := undef) rfl (by kernel_rfl) (by kernel_rfl) (by kernel_rfl) (fun _ _ _ => id) (Or.inr ⟨by rfl, rfl⟩) hHeld ?_
              simp only [Act.put, zp]
              refine wpAnyH_take (i := 41) (v := undef) rfl (by kernel_rfl) (by kernel_rfl) (by kernel_rfl) (fun _ _ _ => id) (Or.inr ⟨by rfl, rfl⟩) hHeld ?_
              simp only [Act.put, zp]
              refine wpAnyH_take (i := 42) (v := undef) rfl (by kernel_rfl) (by kernel_rfl) (by kernel_rfl) (fun _ _ _ => id) (Or.inr ⟨by rfl, rfl⟩) hHeld ?_
              simp only [Act.put, zp]
              refine wpAnyH_take (i := 43) (v := .bool false) rfl (by kernel_rfl) (by kernel_rfl) (by kernel_rfl) (fun _ _ _ => id) (Or.inl ⟨by rfl, ?yb3f43⟩) hHeld ?_
              case yb3f43 => intro w hSw; go_simp
              simp only [Act.put, zp]
              refine wpAnyH_take (i := 44) (v := .bool false) rfl (by kernel_rfl) (by kernel_rfl) (by kernel_rfl) (fun _ _ _ => id) (Or.inl ⟨by rfl, ?yb3f44⟩) hHeld ?_
              case yb3f44 => intro w hSw; go_simp
              simp only [Act.put, zp]
              refine wpAnyH_done (by kernel_rfl) ?_ _
              have EF := hid (show false = A from (and_f EE2.out rfl).symm)
              have BB := hid (B4.out.trans (hHeld.mono B4.out.size))
              clear hHeld bd
              go_wp2
              go_ret
              exact ⟨ret_bool EF.out, BB.out⟩
            | true =>
              have EE3 := hid (and_t EE2.out rfl)
              clear EE2
              refine wpAnyH_take (i := 15) (v := .bool true) rfl (by kernel_rfl) (by kernel_rfl) (by kernel_rfl) (fun _ _ _ => id) (Or.inl ⟨by rfl, ?ys15⟩) hHeld ?_
              case ys15 => intro w hSw; go_simp
              simp only [Act.put, zp]
              refine wpAnyH_take (i := 16) (v := .bool true) rfl (by kernel_rfl) (by kernel_rfl) (by kernel_rfl) (fun _ _ _ => id) (Or.inl ⟨by rfl, ?ys16⟩) hHeld ?_
              case ys16 => intro w hSw; go_simp
              simp only [Act.put, zp]
              refine wpAnyH_take (i := 17) (v := .slice xa (arrNames ts).length xc) rfl (by kernel_rfl) (by kernel_rfl) (by kernel_rfl) (fun _ _ _ => id) (Or.inl ⟨by rfl, ?ys17⟩) hHeld ?_
              case ys17 => intro w hSw; go_simp
              simp only [Act.put, zp]
              refine wpAnyH_take (i := 18) (v := .slice za (nmS 3 F []).length zc) rfl (by kernel_rfl) (by kernel_rfl) (by kernel_rfl) (fun _ _ _ => id) (Or.inl ⟨by rfl, ?ys18⟩) hHeld ?_
              case ys18 => intro w hSw; go_simp
              simp only [Act.put, zp]
              refine wpAnyH_ready (rs := [19]) (by kernel_rfl) (by simp) ?_
              refine AllReadyH.cons rfl (fun K hK => ?_) AllReadyH.nil
              rw [if_pos (by rfl)]
              simp only [zq]
              go_wp2_with fail
              refine (C5.out _ hHeld).mono ?_
              rintro e w9 ⟨rfl, rfl⟩
              go_wp2_with fail
              refine hK.out _ _ (hHeld) (fun hHeld => ?_)
              cases b4 with
              | false =>
                refine wpAnyH_take (i := 20) (v := .bool false) rfl (by kernel_rfl) (by kernel_rfl) (by kernel_rfl) (fun _ _ _ => id) (Or.inl ⟨by rfl, ?yb4f20⟩) hHeld ?_
                case yb4f20 => intro w hSw; go_simp
                simp only [Act.put, zp]
                refine wpAnyH_take (i := 21) (v := .bool false) rfl (by kernel_rfl) (by kernel_rfl) (by kernel_rfl) (fun _ _ _ => id) (Or.inl ⟨by rfl, ?yb4f21⟩) hHeld ?_
                case yb4f21 => intro w hSw; go_simp
                simp only [Act.put, zp]
                refine wpAnyH_take (i := 22) (v := undef) rfl (by kernel_rfl) (by kernel_rfl) (by kernel_rfl) (fun _ _ _ => id) (Or.inr ⟨by rfl, rfl⟩) hHeld ?_
                simp only [Act.put, zp]
                refine wpAnyH_take (i := 23) (v := undef) rfl (by kernel_rfl) (by kernel_rfl) (by kernel_rfl) (fun _ _ _ => id) (Or.inr ⟨by rfl, rfl⟩) hHeld ?_
                simp only [Act.put, zp]
                refine wpAnyH_take (i := 24) (v := undef) rfl (by kernel_rfl) (by kernel_rfl) (by kernel_rfl) (fun _ _ _ => id) (Or.inr ⟨by rfl, rfl⟩) hHeld ?_
                simp only [Act.put, zp]
                refine wpAnyH_take (i := 25) (v := undef) rfl (by kernel_rfl) (by kernel_rfl) (by kernel_rfl) (fun _ _ _ => id) (Or.inr ⟨by rfl, rfl⟩) hHeld ?_
                simp only [Act.put, zp]
                refine wpAnyH_take (i := 26) (v := undef) rfl (by kernel_rfl) (by kernel_rfl) (by kernel_rfl) (fun _ _ _ => id) (Or.inr ⟨by rfl, rfl⟩) hHeld ?_
                simp only [Act.put, zp]
                refine wpAnyH_take (i := 27) (v := .bool false) rfl (by kernel_rfl) (by kernel_rfl) (by kernel_rfl) (fun _ _ _ => id) (Or.inl ⟨by rfl, ?yb4f27⟩) hHeld ?_
                case yb4f27 => intro w hSw; go_simp
                simp only [Act.put, zp]
                refine wpAnyH_take (i := 28) (v := .bool false) rfl (by kernel_rfl) (by kernel_rfl) (by kernel_rfl) (fun _ _ _ => id) (Or.inl ⟨by rfl, ?yb4f28⟩) hHeld ?_
                case yb4f28 => intro w hSw; go_simp
                simp only [Act.put, zp]
                refine wpAnyH_take (i := 29) (v := undef) rfl (by kernel_rfl) (by kernel_rfl) (by kernel_rfl) (fun _ _ _ => id) (Or.inr ⟨by rfl, rfl⟩) hHeld ?_
                simp only [Act.put, zp]
                refine wpAnyH_take (i := 30) (v := undef) rfl (by kernel_rfl) (by kernel_rfl) (by kernel_rfl) (fun _ _ _ => id) (Or.inr ⟨by rfl, rfl⟩) hHeld ?_
                simp only [Act.put, zp]
                refine wpAnyH_take (i := 31) (v := undef) rfl (by kernel_rfl) (by kernel_rfl) (by kernel_rfl) (fun _ _ _ => id) (Or.inr ⟨by rfl, rfl⟩) hHeld ?_
                simp only [Act.put, zp]
                refine wpAnyH_take (i := 32) (v := .bool false) rfl (by kernel_rfl) (by kernel_rfl) (by kernel_rfl) (fun _ _ _ => id) (Or.inl ⟨by rfl, ?yb4f32⟩) hHeld ?_
                case yb4f32 => intro w hSw; go_simp
                simp only [Act.put, zp]
                refine wpAnyH_take (i := 33) (v := .bool false) rfl (by kernel_rfl) (by kernel_rfl) (by kernel_rfl) (fun _ _ _ => id) (Or.inl ⟨by rfl, ?yb4f33⟩) hHeld ?_
                case yb4f33 => intro w hSw; go_simp
                simp only [Act.put, zp]
                refine wpAnyH_take (i := 34) (v := undef) rfl (by kernel_rfl) (by kernel_rfl) (by kernel_rfl) (fun _ _ _ => id) (Or.inr ⟨by rfl, rfl⟩) hHeld ?_
                simp only [Act.put, zp]
                refine wpAnyH_take (i := 35) (v := undef) rfl (by kernel_rfl) (by kernel_rfl) (by kernel_rfl) (fun _ _ _ => id) (Or.inr ⟨by rfl, rfl⟩) hHeld ?_
                simp only [Act.put, zp]
                refine wpAnyH_take (i := 36) (v := undef) rfl (by kernel_rfl) (by kernel_rfl) (by kernel_rfl) (fun _ _ _ => id) (Or.inr ⟨by rfl, rfl⟩) hHeld ?_
                simp only [Act.put, zp]
                refine wpAnyH_take (i := 37) (v := undef) rfl (by kernel_rfl) (by kernel_rfl) (by kernel_rfl) (fun _ _ _ => id) (Or.inr ⟨by rfl, rfl⟩) hHeld ?_
                simp only [Act.put, zp]
                refine wpAnyH_take (i := 38) (v := .bool false) rfl (by kernel_rfl) (by kernel_rfl) (by kernel_rfl) (fun _ _ _ => id) (Or.inl ⟨by rfl, ?yb4f38⟩) hHeld ?_
                case yb4f38 => intro w hSw; go_simp
                simp only [Act.put, zp]
                refine wpAnyH_take (i := 39) (v := .bool false) rfl (by kernel_rfl) (by kernel_rfl) (by kernel_rfl) (fun _ _ _ => id) (Or.inl ⟨by rfl, ?yb4f39⟩) hHeld ?_
                case yb4f39 => intro w hSw; go_simp
                simp only [Act.put, zp]
                refine wpAnyH_take (i := 40) (v := undef) rfl (by kernel_rfl) (by kernel_rfl) (by kernel_rfl) (fun _ _ _ => id) (Or.inr ⟨by rfl, rfl⟩) hHeld ?_
                simp only [Act.put, zp]
                refine wpAnyH_take (i := 41) (v := undef) rfl (by kernel_rfl) (by kernel_rfl) (by kernel_rfl) (fun _ _ _ => id) (Or.inr ⟨by rfl, rfl⟩) hHeld ?_
                simp only [Act.put, zp]
                refine wpAnyH_take (i := 42) (v := undef) rfl (by kernel_rfl) (by kernel_rfl) (by kernel_rfl) (fun _ _ _ => id) (Or.inr ⟨by rfl, rfl⟩) hHeld ?_
                simp only [Act.put, zp]
                refine wpAnyH_take (i := 43) (v := .bool false) rfl (by kernel_rfl) (by kernel_rfl) (by kernel_rfl) (fun _ _ _ => id) (Or.inl ⟨by rfl, ?yb4f43⟩) hHeld ?_
                case yb4f43 => intro w hSw; go_simp
                simp only [Act.put, zp]
                refine wpAnyH_take (i := 44) (v := .bool false) rfl (by kernel_rfl) (by kernel_rfl) (by kernel_rfl) (fun _ _ _ => id) (Or.inl ⟨by rfl, ?yb4f44⟩) hHeld ?_
                case yb4f44 => intro w hSw; go_simp
                simp only [Act.put, zp]
                refine wpAnyH_done (by kernel_rfl) ?_ _
                have EF := hid (show false = A from (and_f EE3.out rfl).symm)
                have BB := hid (B4.out.trans (hHeld.mono B4.out.size))
                clear hHeld bd
                go_wp2
                go_ret
                exact ⟨ret_bool EF.out, BB.out⟩
              | true =>
                have EE4 := hid (and_t EE3.out rfl)
                clear EE3
                refine wpAnyH_take (i := 20) (v := .bool true) rfl (by kernel_rfl) (by kernel_rfl) (by kernel_rfl) (fun _ _ _ => id) (Or.inl ⟨by rfl, ?ys20⟩) hHeld ?_
                case ys20 => intro w hSw; go_simp
                simp only [Act.put, zp]
                refine wpAnyH_take (i := 21) (v := .bool true) rfl (by kernel_rfl) (by kernel_rfl) (by kernel_rfl) (fun _ _ _ => id) (Or.inl ⟨by rfl, ?ys21⟩) hHeld ?_
                case ys21 => intro w hSw; go_simp
                simp only [Act.put, zp]
                refine wpAnyH_take (i := 22) (v := .slice xa (arrNames ts).length xc) rfl (by kernel_rfl) (by kernel_rfl) (by kernel_rfl) (fun _ _ _ => id) (Or.inl ⟨by rfl, ?ys22⟩) hHeld ?_
                case ys22 => intro w hSw; go_simp
                simp only [Act.put, zp]
                refine wpAnyH_take (i := 23) (v := .pointer (some ⟨w.heap.size, 1, Option.none⟩)) rfl (by kernel_rfl) (by kernel_rfl) (by kernel_rfl) (fun _ _ _ => id) (Or.inl ⟨by rfl, ?ys23⟩) hHeld ?_
                case ys23 => intro w hSw; go_simp
                simp only [Act.put, zp]
                refine wpAnyH_take (i := 24) (v := .slice vo (slen F) vcap) rfl (by kernel_rfl) (by kernel_rfl) (by kernel_rfl) (fun _ _ _ => id) (Or.inl ⟨by rfl, ?ys24⟩) hHeld ?_
                case ys24 => intro w hSw; have q := rangeAt_later R4.out hSw 1 _ rfl; go_simp
                simp only [Act.put, zp]
                refine wpAnyH_ready (rs := [25]) (by kernel_rfl) (by simp) ?_
                refine AllReadyH.cons rfl (fun K hK => ?_) AllReadyH.nil
                rw [if_pos (by rfl)]
                simp only [zq]
                go_wp2_with fail
                refine (C6.out _ hHeld).mono ?_
                rintro e w10 ⟨v10, rfl, hv10, hb10⟩
                have V10 := hid hv10
                clear hv10
                go_wp2_with fail
                refine hK.out _ _ (hHeld.trans (hb10.mono hHeld.size)) (fun hHeld => ?_)
                refine wpAnyH_ready (rs := [26]) (by kernel_rfl) (by simp) ?_
                refine AllReadyH.cons rfl (fun K hK => ?_) AllReadyH.nil
                rw [if_pos (by rfl)]
                simp only [zq]
                go_wp2_with fail
                refine (C7.out _ _ hHeld V10.out).mono ?_
                rintro e w11 ⟨rfl, rfl⟩
                go_wp2_with fail
                refine hK.out _ _ (hHeld) (fun hHeld => ?_)
                cases b5 with
                | false =>
                  refine wpAnyH_take (i := 27) (v := .bool false) rfl (by kernel_rfl) (by kernel_rfl) (by kernel_rfl) (fun _ _ _ => id) (Or.inl ⟨by rfl, ?yb5f27⟩) hHeld ?_
                  case yb5f27 => intro w hSw; go_simp
                  simp only [Act.put, zp]
                  refine wpAnyH_take (i := 28) (v := .bool false) rfl (by kernel_rfl) (by kernel_rfl) (by kernel_rfl) (fun _ _ _ => id) (Or.inl ⟨by rfl, ?yb5f28⟩) hHeld ?_
                  case yb5f28 => intro w hSw; go_simp
                  simp only [Act.put, zp]
                  refine wpAnyH_take (i := 29) (v := undef) rfl (by kernel_rfl) (by kernel_rfl) (by kernel_rfl) (fun _ _ _ => id) (Or.inr ⟨by rfl, rfl⟩) hHeld ?_
                  simp only [Act.put, zp]
                  refine wpAnyH_take (i := 30) (v := undef) rfl (by kernel_rfl) (by kernel_rfl) (by kernel_rfl) (fun _ _ _ => id) (Or.inr ⟨by rfl, rfl⟩) hHeld ?_
                  simp only [Act.put, zp]
                  refine wpAnyH_take (i := 31) (v := undef) rfl (by kernel_rfl) (by kernel_rfl) (by kernel_rfl) (fun _ _ _ => id) (Or.inr ⟨by rfl, rfl⟩) hHeld ?_
                  simp only [Act.put, zp]
                  refine wpAnyH_take (i := 32) (v := .bool false) rfl (by kernel_rfl) (by kernel_rfl) (by kernel_rfl) (fun _ _ _ => id) (Or.inl ⟨by rfl, ?yb5f32⟩) hHeld ?_
                  case yb5f32 => intro w hSw; go_simp
                  simp only [Act.put, zp]
                  refine wpAnyH_take (i := 33) (v := .bool false) rfl (by kernel_rfl) (by kernel_rfl) (by kernel_rfl) (fun _ _ _ => id) (Or.inl ⟨by rfl, ?yb5f33⟩) hHeld ?_
                  case yb5f33 => intro w hSw; go_simp
                  simp only [Act.put, zp]
                  refine wpAnyH_take (i := 34) (v := undef) rfl (by kernel_rfl) (by kernel_rfl) (by kernel_rfl) (fun _ _ _ => id) (Or.inr ⟨by rfl, rfl⟩) hHeld ?_
                  simp only [Act.put, zp]
                  refine wpAnyH_take (i := 35) (v := undef) rfl (by kernel_rfl) (by kernel_rfl) (by kernel_rfl) (fun _ _ _ => id) (Or.inr ⟨by rfl, rfl⟩) hHeld ?_
                  simp only [Act.put, zp]
                  refine wpAnyH_take (i := 36) (v := undef) rfl (by kernel_rfl) (by kernel_rfl) (by kernel_rfl) (fun _ _ _ => id) (Or.inr ⟨by rfl, rfl⟩) hHeld ?_
                  simp only [Act.put, zp]
                  refine wpAnyH_take (i := 37) (v := undef) rfl (by kernel_rfl) (by kernel_rfl) (by kernel_rfl) (fun _ _ _ => id) (Or.inr ⟨by rfl, rfl⟩) hHeld ?_
                  simp only [Act.put, zp]
                  refine wpAnyH_take (i := 38) (v := .bool false) rfl (by kernel_rfl) (by kernel_rfl) (by kernel_rfl) (fun _ _ _ => id) (Or.inl ⟨by rfl, ?yb5f38⟩) hHeld ?_
                  case yb5f38 => intro w hSw; go_simp
                  simp only [Act.put, zp]
                  refine wpAnyH_take (i := 39) (v := .bool false) rfl (by kernel_rfl) (by kernel_rfl) (by kernel_rfl) (fun _ _ _ => id) (Or.inl ⟨by rfl, ?yb5f39⟩) hHeld ?_
                  case yb5f39 => intro w hSw; go_simp
                  simp only [Act.put, zp]
                  refine wpAnyH_take (i := 40) (v := undef) rfl (by kernel_rfl) (by kernel_rfl) (by kernel_rfl) (fun _ _ _ => id) (Or.inr ⟨by rfl, rfl⟩) hHeld ?_
                  simp only [Act.put, zp]
                  refine wpAnyH_take (i := 41) (v := undef) rfl (by kernel_rfl) (by kernel_rfl) (by kernel_rfl) (fun _ _ _ => id) (Or.inr ⟨by rfl, rfl⟩) hHeld ?_
                  simp only [Act.put, zp]
                  refine wpAnyH_take (i := 42) (v := undef) rfl (by kernel_rfl) (by kernel_rfl) (by kernel_rfl) (fun _ _ _ => id) (Or.inr ⟨by rfl, rfl⟩) hHeld ?_
                  simp only [Act.put, zp]
                  refine wpAnyH_take (i := 43) (v := .bool false) rfl (by kernel_rfl) (by kernel_rfl) (by kernel_rfl) (fun _ _ _ => id) (Or.inl ⟨by rfl, ?yb5f43⟩) hHeld ?_
                  case yb5f43 => intro w hSw; go_simp
                  simp only [Act.put, zp]
                  refine wpAnyH_take (i := 44) (v := .bool false) rfl (by kernel_rfl) (by kernel_rfl) (by kernel_rfl) (fun _ _ _ => id) (Or.inl ⟨by rfl, ?yb5f44⟩) hHeld ?_
                  case yb5f44 => intro w hSw; go_simp
                  simp only [Act.put, zp]
                  refine wpAnyH_done (by kernel_rfl) ?_ _
                  have EF := hid (show false = A from (and_f EE4.out rfl).symm)
                  have BB := hid (B4.out.trans (hHeld.mono B4.out.size))
                  clear hHeld bd
                  go_wp2
                  go_ret
                  exact ⟨ret_bool EF.out, BB.out⟩
                | true =>
                  have EE5 := hid (and_t EE4.out rfl)
                  clear EE4
                  refine wpAnyH_take (i := 27) (v := .bool true) rfl (by kernel_rfl) (by kernel_rfl) (by kernel_rfl) (fun _ _ _ => id) (Or.inl ⟨by rfl, ?ys27⟩) hHeld ?_
                  case ys27 => intro w hSw; go_simp
                  simp only [Act.put, zp]
                  refine wpAnyH_take (i := 28) (v := .bool true) rfl (by kernel_rfl) (by kernel_rfl) (by kernel_rfl) (fun _ _ _ => id) (Or.inl ⟨by rfl, ?ys28⟩) hHeld ?_
                  case ys28 => intro w hSw; go_simp
                  simp only [Act.put, zp]
                  refine wpAnyH_take (i := 29) (v := .slice ya (nmS 1 F []).length yc) rfl (by kernel_rfl) (by kernel_rfl) (by kernel_rfl) (fun _ _ _ => id) (Or.inl ⟨by rfl, ?ys29⟩) hHeld ?_
                  case ys29 => intro w hSw; go_simp
                  simp only [Act.put, zp]
                  refine wpAnyH_take (i := 30) (v := .slice za (nmS 3 F []).length zc) rfl (by kernel_rfl) (by kernel_rfl) (by kernel_rfl) (fun _ _ _ => id) (Or.inl ⟨by rfl, ?ys30⟩) hHeld ?_
                  case ys30 => intro w hSw; go_simp
                  simp only [Act.put, zp]
                  refine wpAnyH_ready (rs := [31]) (by kernel_rfl) (by simp) ?_
                  refine AllReadyH.cons rfl (fun K hK => ?_) AllReadyH.nil
                  rw [if_pos (by rfl)]
                  simp only [zq]
                  go_wp2_with fail
                  refine (C8.out _ hHeld).mono ?_
                  rintro e w12 ⟨rfl, rfl⟩
                  go_wp2_with fail
                  refine hK.out _ _ (hHeld) (fun hHeld => ?_)
                  cases b6 with
                  | false =>
                    refine wpAnyH_take (i := 32) (v := .bool false) rfl (by kernel_rfl) (by kernel_rfl) (by kernel_rfl) (fun _ _ _ => id) (Or.inl ⟨by rfl, ?yb6f32⟩) hHeld ?_
                    case yb6f32 => intro w hSw; go_simp
                    simp only [Act.put, zp]
                    refine wpAnyH_take (i := 33) (v := .bool false) rfl (by kernel_rfl) (by kernel_rfl) (by kernel_rfl) (fun _ _ _ => id) (Or.inl ⟨by rfl, ?yb6f33⟩) hHeld ?_
                    case yb6f33 => intro w hSw; go_simp
                    simp only [Act.put, zp]
                    refine wpAnyH_take (i := 34) (v := undef) rfl (by kernel_rfl) (by kernel_rfl) (by kernel_rfl) (fun _ _ _ => id) (Or.inr ⟨by rfl, rfl⟩) hHeld ?_
                    simp only [Act.put, zp]
                    refine wpAnyH_take (i := 35) (v := undef) rfl (by kernel_rfl) (by kernel_rfl) (by kernel_rfl) (fun _ _ _ => id) (Or.inr ⟨by rfl, rfl⟩) hHeld ?_
                    simp only [Act.put, zp]
                    refine wpAnyH_take (i := 36) (v := undef) rfl (by kernel_rfl) (by kernel_rfl) (by kernel_rfl) (fun _ _ _ => id) (Or.inr ⟨by rfl, rfl⟩) hHeld ?_
                    simp only [Act.put, zp]
                    refine wpAnyH_take (i := 37) (v := undef) rfl (by kernel_rfl) (by kernel_rfl) (by kernel_rfl) (fun _ _ _ => id) (Or.inr ⟨by rfl, rfl⟩) hHeld ?_
                    simp only [Act.put, zp]
                    refine wpAnyH_take (i := 38) (v := .bool false) rfl (by kernel_rfl) (by kernel_rfl) (by kernel_rfl) (fun _ _ _ => id) (Or.inl ⟨by rfl, ?yb6f38⟩) hHeld ?_
                    case yb6f38 => intro w hSw; go_simp
                    simp only [Act.put, zp]
                    refine wpAnyH_take (i := 39) (v := .bool false) rfl (by kernel_rfl) (by kernel_rfl) (by kernel_rfl) (fun _ _ _ => id) (Or.inl ⟨by rfl, ?yb6f39⟩) hHeld ?_
                    case yb6f39 => intro w hSw; go_simp
                    simp only [Act.put, zp]
                    refine wpAnyH_take (i := 40) (v := undef) rfl (by kernel_rfl) (by kernel_rfl) (by kernel_rfl) (fun _ _ _ => id) (Or.inr ⟨by rfl, rfl⟩) hHeld ?_
                    simp only [Act.put, zp]
                    refine wpAnyH_take (i := 41) (v := undef) rfl (by kernel_rfl) (by kernel_rfl) (by kernel_rfl) (fun _ _ _ => id) (Or.inr ⟨by rfl, rfl⟩) hHeld ?_
                    simp only [Act.put, zp]
                    refine wpAnyH_take (i := 42) (v := undef) rfl (by kernel_rfl) (by kernel_rfl) (by kernel_rfl) (fun _ _ _ => id) (Or.inr ⟨by rfl, rfl⟩) hHeld ?_
                    simp only [Act.put, zp]
                    refine wpAnyH_take (i := 43) (v := .bool false) rfl (by kernel_rfl) (by kernel_rfl) (by kernel_rfl) (fun _ _ _ => id) (Or.inl ⟨by rfl, ?yb6f43⟩) hHeld ?_
                    case yb6f43 => intro w hSw; go_simp
                    simp only [Act.put, zp]
                    refine wpAnyH_take (i := 44) (v := .bool false) rfl (by kernel_rfl) (by kernel_rfl) (by kernel_rfl) (fun _ _ _ => id) (Or.inl ⟨by rfl, ?yb6f44⟩) hHeld ?_
                    case yb6f44 => intro w hSw; go_simp
                    simp only [Act.put, zp]
                    refine wpAnyH_done (by kernel_rfl) ?_ _
                    have EF := hid (show false = A from (and_f EE5.out rfl).symm)
                    have BB := hid (B4.out.trans (hHeld.mono B4.out.size))
                    clear hHeld bd
                    go_wp2
                    go_ret
                    exact ⟨ret_bool EF.out, BB.out⟩
                  | true =>
                    have EE6 := hid (and_t EE5.out rfl)
                    clear EE5
                    refine wpAnyH_take (i := 32) (v := .bool true) rfl (by kernel_rfl) (by kernel_rfl) (by kernel_rfl) (fun _ _ _ => id) (Or.inl ⟨by rfl, ?ys32⟩) hHeld ?_
                    case ys32 => intro w hSw; go_simp
                    simp only [Act.put, zp]
                    refine wpAnyH_take (i := 33) (v := .bool true) rfl (by kernel_rfl) (by kernel_rfl) (by kernel_rfl) (fun _ _ _ => id) (Or.inl ⟨by rfl, ?ys33⟩) hHeld ?_
                    case ys33 => intro w hSw; go_simp
                    simp only [Act.put, zp]
                    refine wpAnyH_take (i := 34) (v := .pointer (some ⟨w.heap.size, 1, Option.none⟩)) rfl (by kernel_rfl) (by kernel_rfl) (by kernel_rfl) (fun _ _ _ => id) (Or.inl ⟨by rfl, ?ys34⟩) hHeld ?_
                    case ys34 => intro w hSw; go_simp
                    simp only [Act.put, zp]
                    refine wpAnyH_take (i := 35) (v := .slice vo (slen F) vcap) rfl (by kernel_rfl) (by kernel_rfl) (by kernel_rfl) (fun _ _ _ => id) (Or.inl ⟨by rfl, ?ys35⟩) hHeld ?_
                    case ys35 => intro w hSw; have q := rangeAt_later R4.out hSw 1 _ rfl; go_simp
                    simp only [Act.put, zp]
                    refine wpAnyH_ready (rs := [36]) (by kernel_rfl) (by simp) ?_
                    refine AllReadyH.cons rfl (fun K hK => ?_) AllReadyH.nil
                    rw [if_pos (by rfl)]
                    simp only [zq]
                    go_wp2_with fail
                    refine hK.out _ _ (hHeld.alloc hHeld.size _) (fun hHeld => ?_)
                    try simp only [Act.put, zp]
                    refine wpAnyH_ready (rs := [37]) (by kernel_rfl) (by simp) ?_
                    refine AllReadyH.cons rfl (fun K hK => ?_) AllReadyH.nil
                    rw [if_pos (by rfl)]
                    simp only [zq]
                    go_wp2_with fail
                    refine (C9.out _ _ hHeld (TS.made w10 _)).mono ?_
                    rintro e w13 ⟨rfl, hb13⟩
                    go_wp2_with fail
                    refine hK.out _ _ (hHeld.trans (hb13.mono hHeld.size)) (fun hHeld => ?_)
                    cases b7 with
                    | false =>
                      refine wpAnyH_take (i := 38) (v := .bool false) rfl (by kernel_rfl) (by kernel_rfl) (by kernel_rfl) (fun _ _ _ => id) (Or.inl ⟨by rfl, ?yb7f38⟩) hHeld ?_
                      case yb7f38 => intro w hSw; go_simp
                      simp only [Act.put, zp]
                      refine wpAnyH_take (i := 39) (v := .bool false) rfl (by kernel_rfl) (by kernel_rfl) (by kernel_rfl) (fun _ _ _ => id) (Or.inl ⟨by rfl, ?yb7f39⟩) hHeld ?_
                      case yb7f39 => intro w hSw; go_simp
                      simp only [Act.put, zp]
                      refine wpAnyH_take (i := 40) (v := undef) rfl (by kernel_rfl) (by kernel_rfl) (by kernel_rfl) (fun _ _ _ => id) (Or.inr ⟨by rfl, rfl⟩) hHeld ?_
                      simp only [Act.put, zp]
                      refine wpAnyH_take (i := 41) (v := undef) rfl (by kernel_rfl) (by kernel_rfl) (by kernel_rfl) (fun _ _ _ => id) (Or.inr ⟨by rfl, rfl⟩) hHeld ?_
                      simp only [Act.put, zp]
                      refine wpAnyH_take (i := 42) (v := undef) rfl (by kernel_rfl) (by kernel_rfl) (by kernel_rfl) (fun _ _ _ => id) (Or.inr ⟨by rfl, rfl⟩) hHeld ?_
                      simp only [Act.put, zp]
                      refine wpAnyH_take (i := 43) (v := .bool false) rfl (by kernel_rfl) (by kernel_rfl) (by kernel_rfl) (fun _ _ _ => id) (Or.inl ⟨by rfl, ?yb7f43⟩) hHeld ?_
                      case yb7f43 => intro w hSw; go_simp
                      simp only [Act.put, zp]
                      refine wpAnyH_take (i := 44) (v := .bool false) rfl (by kernel_rfl) (by kernel_rfl) (by kernel_rfl) (fun _ _ _ => id) (Or.inl ⟨by rfl, ?yb7f44⟩) hHeld ?_
                      case yb7f44 => intro w hSw; go_simp
                      simp only [Act.put, zp]
                      refine wpAnyH_done (by kernel_rfl) ?_ _
                      have EF := hid (show false = A from (and_f EE6.out rfl).symm)
                      have BB := hid (B4.out.trans (hHeld.mono B4.out.size))
                      clear hHeld bd
                      go_wp2
                      go_ret
                      exact ⟨ret_bool EF.out, BB.out⟩
                    | true =>
                      have EE7 := hid (and_t EE6.out rfl)
                      clear EE6
                      refine wpAnyH_take (i := 38) (v := .bool true) rfl (by kernel_rfl) (by kernel_rfl) (by kernel_rfl) (fun _ _ _ => id) (Or.inl ⟨by rfl, ?ys38⟩) hHeld ?_
                      case ys38 => intro w hSw; go_simp
                      simp only [Act.put, zp]
                      refine wpAnyH_take (i := 39) (v := .bool true) rfl (by kernel_rfl) (by kernel_rfl) (by kernel_rfl) (fun _ _ _ => id) (Or.inl ⟨by rfl, ?ys39⟩) hHeld ?_
                      case ys39 => intro w hSw; go_simp
                      simp only [Act.put, zp]
                      refine wpAnyH_take (i := 40) (v := .slice ya (nmS 1 F []).length yc) rfl (by kernel_rfl) (by kernel_rfl) (by kernel_rfl) (fun _ _ _ => id) (Or.inl ⟨by rfl, ?ys40⟩) hHeld ?_
                      case ys40 => intro w hSw; go_simp
                      simp only [Act.put, zp]
                      refine wpAnyH_take (i := 41) (v := .int .i64 ((nmS 1 F []).length : Int)) rfl (by kernel_rfl) (by kernel_rfl) (by kernel_rfl) (fun _ _ _ => id) (Or.inl ⟨by rfl, ?ys41⟩) hHeld ?_
                      case ys41 => intro w hSw; go_simp
                      simp only [Act.put, zp]
                      by_cases h6 : ((nmS 1 F []).length : Int) ≤ 6
                      · have h6d : decide (((nmS 1 F []).length : Int) ≤ 6) = true := decide_eq_true h6
                        refine wpAnyH_take (i := 42) (v := .bool true) rfl (by kernel_rfl) (by kernel_rfl) (by kernel_rfl) (fun _ _ _ => id) (Or.inl ⟨by rfl, ?yy42⟩) hHeld ?_
                        case yy42 => intro w hSw; go_simp
                        simp only [Act.put, zp]
                        refine wpAnyH_take (i := 43) (v := .bool true) rfl (by kernel_rfl) (by kernel_rfl) (by kernel_rfl) (fun _ _ _ => id) (Or.inl ⟨by rfl, ?yy43⟩) hHeld ?_
                        case yy43 => intro w hSw; go_simp
                        simp only [Act.put, zp]
                        refine wpAnyH_take (i := 44) (v := .bool true) rfl (by kernel_rfl) (by kernel_rfl) (by kernel_rfl) (fun _ _ _ => id) (Or.inl ⟨by rfl, ?yy44⟩) hHeld ?_
                        case yy44 => intro w hSw; go_simp
                        simp only [Act.put, zp]
                        refine wpAnyH_done (by kernel_rfl) ?_ _
                        have EF := hid (show true = A by rw [← EE7.out, decide_eq_true (by omega)])
                        have BB := hid (B4.out.trans (hHeld.mono B4.out.size))
                        clear hHeld bd
                        go_wp2
                        go_ret
                        exact ⟨ret_bool EF.out, BB.out⟩
                      · have h6d : decide (((nmS 1 F []).length : Int) ≤ 6) = false := decide_eq_false h6
                        refine wpAnyH_take (i := 42) (v := .bool false) rfl (by kernel_rfl) (by kernel_rfl) (by kernel_rfl) (fun _ _ _ => id) (Or.inl ⟨by rfl, ?yz42⟩) hHeld ?_
                        case yz42 => intro w hSw; go_simp
                        simp only [Act.put, zp]
                        refine wpAnyH_take (i := 43) (v := .bool false) rfl (by kernel_rfl) (by kernel_rfl) (by kernel_rfl) (fun _ _ _ => id) (Or.inl ⟨by rfl, ?yz43⟩) hHeld ?_
                        case yz43 => intro w hSw; go_simp
                        simp only [Act.put, zp]
                        refine wpAnyH_take (i := 44) (v := .bool false) rfl (by kernel_rfl) (by kernel_rfl) (by kernel_rfl) (fun _ _ _ => id) (Or.inl ⟨by rfl, ?yz44⟩) hHeld ?_
                        case yz44 => intro w hSw; go_simp
                        simp only [Act.put, zp]
                        refine wpAnyH_done (by kernel_rfl) ?_ _
                        have EF := hid (show false = A by rw [← EE7.out, decide_eq_false (by omega)])
                        have BB := hid (B4.out.trans (hHeld.mono B4.out.size))
                        clear hHeld bd
                        go_wp2
                        go_ret
                        exact ⟨ret_bool EF.out, BB.out⟩
end Go.Proofs.YtpinockfakndlaaGreat
