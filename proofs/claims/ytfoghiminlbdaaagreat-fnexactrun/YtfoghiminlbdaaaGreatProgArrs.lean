/-
  The contracts of the landed code's arrsOk, stmtsOk, namingOf.
-/
import Derived.Test.YtfoghiminlbdaaaGreatZp
import Derived.Test.YtfoghiminlbdaaaGreatProgHead
import Derived.Test.YtfoghiminlbdaaaGreatP20ofRun
import Derived.Test.YtfoghiminlbdaaaGreatP08ofRun
import Derived.Test.YtfoghiminlbdaaaGreatP14ofRun
namespace Go.Proofs.YtfoghiminlbdaaaGreat
open Go.RowKit Go.Lib Go.Maps Go.Sort Go.WideMaps
set_option linter.unusedSimpArgs false
set_option linter.unusedVariables false
set_option maxHeartbeats 4000000 in
set_option maxRecDepth 100000 in
theorem arrsOk_is (ts : List AR) (hn : ts.length ≤ 1048576) (A : Bool) (hA : (decide (ts.length ≤ 4) && arrsB Option.none ts) = A) (va : Value) (w : World) (ha : AV w 0 va ts) :
    Calls Tryz.prog 72 #[va] w fun e w' => e = .returned (.bool A) ∧ Below w.heap.size w w' := by
  have Ha := hid ha
  obtain ⟨ao, cap, rfl⟩ := ha.shape
  have HA0 := hid hA
  clear ha hA
  by_cases h4 : (ts.length : Int) ≤ 4
  · have h4' : ¬ (4 : Int) < (ts.length : Int) := by omega
    have HA : Hid (arrsB (ahead ts 0) (ts.drop 0) = A) := hid (and_t HA0.out (decide_eq_true (by omega)))
    clear HA0
    go_enter Tryz.func72, Tryz.ntmps72
    go_wp2
    go_loopw [10] (fun i wr => ∃ k : Nat, k ≤ ts.length ∧ i = .int .i64 k ∧ Hid (arrsB (ahead ts k) (ts.drop k) = A) ∧ Hid (Below w.heap.size w wr)) (fun i _ => ts.length - (RowKit.intOf i).toNat)
    case atStart => exact ⟨0, by omega, rfl, HA, Below.refl _ _⟩
    case round =>
      obtain ⟨k, hk, rfl, hall, hbw⟩ := hrel
      clear HA
      by_cases hlt : k < ts.length
      · have hltI : (k : Int) < (ts.length : Int) := by omega
        obtain ⟨t, ht⟩ : ∃ t, ts[k]? = some t := ⟨ts[k], List.getElem?_eq_getElem hlt⟩
        obtain ⟨g, off, cap', hvv, hcells⟩ := arrAt_cells (Ha.out.later hbw.out) (by intro e; subst e; simp at hlt)
        injection hvv with e1 e2 e3
        subst e1
        clear e2 e3
        have c0 := (hcells k t ht).1
        have c1 := (hcells k t ht).2
        have HC := hid hcells
        have hd := hid (show (arrB (ahead ts k) t && arrsB (ahead ts (k + 1)) (ts.drop (k + 1))) = A by rw [← arrsB_next ht]; exact hall.out)
        clear hall hcells
        obtain ⟨bn, Hbn⟩ : ∃ bn, Hid (nameOk t.s.data.toList = bn) := ⟨_, rfl⟩
        have CN : Hid (∀ w2, Calls Tryz.prog 127 #[.string t.s] w2 fun e w' => e = .returned (.bool bn) ∧ Below w2.heap.size w2 w') := fun w2 => impl_NameOk t.s bn Hbn.out w2
        have hE : Hid (arrB (ahead ts k) t = ((bn && (decide (1 ≤ t.n) && decide (t.n ≤ 16))) && (match ahead ts k with | some q => blt q.s t.s | Option.none => true))) := by show arrB _ t = _; rw [← Hbn.out]; rfl
        go_wp2_with fail
        refine (CN.out _).mono ?_
        rintro e w4 ⟨rfl, hb4⟩
        have d0 := box_cell (i := 0) hb4 rfl
        have d1 := box_cell (i := 1) hb4 rfl
        have B4 := hid (below_alloc hb4)
        have B5 := hid (hbw.out.trans (B4.out.mono hbw.out.size))
        have D0 := hid d0
        clear hb4 CN Hbn
        cases bn with
        | false =>
          have h1 := hid (and_f hd.out (by rw [hE.out]; rfl))
          clear hd hE
          go_wp2
          go_ret
          exact ⟨ret_bool h1.out.symm, B5.out⟩
        | true =>
          by_cases hlo : t.n < 1
          · have h1 := hid (and_f hd.out (by rw [hE.out, decide_eq_false (by omega : ¬ 1 ≤ t.n)]; rfl))
            clear hd hE
            go_wp2
            go_ret
            exact ⟨ret_bool h1.out.symm, B5.out⟩
          · by_cases hhi : 16 < t.n
            · have h1 := hid (and_f hd.out (by rw [hE.out, decide_eq_false (by omega : ¬ t.n ≤ 16), Bool.and_false]; rfl))
              clear hd hE
              go_wp2
              go_ret
              exact ⟨ret_bool h1.out.symm, B5.out⟩
            · have hE1 := hid (show arrB (ahead ts k) t = (match ahead ts k with | some q => blt q.s t.s | Option.none => true) by rw [hE.out, decide_eq_true (by omega : 1 ≤ t.n), decide_eq_true (by omega : t.n ≤ 16)]; rfl)
              clear hE
              have bd : Below w4.heap.size w4 w4.drew := (Below.refl _ w4).drew
              have bd2 := B4.out.trans (bd.mono B4.out.size)
              cases k with
              | zero =>
                have h1 := hid (and_t hd.out (by rw [hE1.out]; rfl))
                clear hd hE1
                go_wp2_with fail
                refine wp_region_held_drew (S := fun w' => Below wr.heap.size wr w' ∧ w'.cell? ⟨wr.heap.size, 0, Option.none⟩ = some (.string t.s)) (by kernel_rfl) ⟨bd2, keeps bd D0.out⟩ (fun hHeld => ?_)
                refine wpAnyH_take (i := 0) (v := .int .i64 0) rfl (by kernel_rfl) (by kernel_rfl) (by kernel_rfl) (fun _ _ _ h => h) (Or.inl ⟨by rfl, ?yz0⟩) hHeld ?_
                case yz0 => intro w hSw; go_simp
                simp only [Act.put, zp]
                refine wpAnyH_take (i := 1) (v := .bool false) rfl (by kernel_rfl) (by kernel_rfl) (by kernel_rfl) (fun _ _ _ h => h) (Or.inl ⟨by rfl, ?yz1⟩) hHeld ?_
                case yz1 => intro w hSw; go_simp
                simp only [Act.put, zp]
                refine wpAnyH_take (i := 2) (v := .bool false) rfl (by kernel_rfl) (by kernel_rfl) (by kernel_rfl) (fun _ _ _ h => h) (Or.inl ⟨by rfl, ?yz2⟩) hHeld ?_
                case yz2 => intro w hSw; go_simp
                simp only [Act.put, zp]
                refine wpAnyH_take (i := 3) (v := undef) rfl (by kernel_rfl) (by kernel_rfl) (by kernel_rfl) (fun _ _ _ h => h) (Or.inr ⟨by rfl, rfl⟩) hHeld ?_
                simp only [Act.put, zp]
                refine wpAnyH_take (i := 4) (v := undef) rfl (by kernel_rfl) (by kernel_rfl) (by kernel_rfl) (fun _ _ _ h => h) (Or.inr ⟨by rfl, rfl⟩) hHeld ?_
                simp only [Act.put, zp]
                refine wpAnyH_take (i := 5) (v := undef) rfl (by kernel_rfl) (by kernel_rfl) (by kernel_rfl) (fun _ _ _ h => h) (Or.inr ⟨by rfl, rfl⟩) hHeld ?_
                simp only [Act.put, zp]
                refine wpAnyH_take (i := 6) (v := undef) rfl (by kernel_rfl) (by kernel_rfl) (by kernel_rfl) (fun _ _ _ h => h) (Or.inr ⟨by rfl, rfl⟩) hHeld ?_
                simp only [Act.put, zp]
                refine wpAnyH_take (i := 7) (v := undef) rfl (by kernel_rfl) (by kernel_rfl) (by kernel_rfl) (fun _ _ _ h => h) (Or.inr ⟨by rfl, rfl⟩) hHeld ?_
                simp only [Act.put, zp]
                refine wpAnyH_take (i := 8) (v := undef) rfl (by kernel_rfl) (by kernel_rfl) (by kernel_rfl) (fun _ _ _ h => h) (Or.inr ⟨by rfl, rfl⟩) hHeld ?_
                simp only [Act.put, zp]
                refine wpAnyH_take (i := 9) (v := undef) rfl (by kernel_rfl) (by kernel_rfl) (by kernel_rfl) (fun _ _ _ h => h) (Or.inr ⟨by rfl, rfl⟩) hHeld ?_
                simp only [Act.put, zp]
                refine wpAnyH_take (i := 10) (v := undef) rfl (by kernel_rfl) (by kernel_rfl) (by kernel_rfl) (fun _ _ _ h => h) (Or.inr ⟨by rfl, rfl⟩) hHeld ?_
                simp only [Act.put, zp]
                refine wpAnyH_take (i := 11) (v := undef) rfl (by kernel_rfl) (by kernel_rfl) (by kernel_rfl) (fun _ _ _ h => h) (Or.inr ⟨by rfl, rfl⟩) hHeld ?_
                simp only [Act.put, zp]
                refine wpAnyH_take (i := 12) (v := .bool false) rfl (by kernel_rfl) (by kernel_rfl) (by kernel_rfl) (fun _ _ _ h => h) (Or.inl ⟨by rfl, ?yz12⟩) hHeld ?_
                case yz12 => intro w hSw; go_simp
                simp only [Act.put, zp]
                refine wpAnyH_done (by kernel_rfl) ?_ _
                have B6 := hid (hbw.out.trans (hHeld.1.mono hbw.out.size))
                clear hHeld bd bd2 d0 d1
                go_wp2
                go_roundw
                case rel => exact ⟨0 + 1, by omega, by go_num, h1, B6⟩
                case measure => simp [RowKit.intOf]; omega
              | succ j =>
                obtain ⟨t0, ht0⟩ : ∃ t0, ts[j]? = some t0 := ⟨ts[j], List.getElem?_eq_getElem (by omega)⟩
                have C1 := hid (HC.out j t0 ht0).1
                have hE2 := hid (show arrB (ahead ts (j + 1)) t = blt t0.s t.s by rw [hE1.out]; show (match ts[j]? with | some q => blt q.s t.s | Option.none => true) = _; rw [ht0])
                have hjp : (0 : Int) < ((j + 1 : Nat) : Int) := by omega
                have hjl : (j : Int) < (ts.length : Int) := by omega
                have hjn : ¬ (j : Int) + 1 < 0 := by omega
                have hjm : ¬ (j : Int) < 0 := by omega
                have hjw : IntKind.i64.wrap (j : Int) = (j : Int) := wrap_small _ (by omega) (by omega)
                have hjq : (j : Int) + 1 < (ts.length : Int) := by omega
                clear HC hE1
                cases hbl : blt t0.s t.s with
                | false =>
                  have h1 := hid (and_f hd.out (hE2.out.trans hbl))
                  have hbs : Op.bytesLess t0.s.toList t.s.toList = false := hbl
                  clear hd hE2 hbl
                  go_wp2_with fail
                  refine wp_region_held_drew (S := fun w' => Below wr.heap.size wr w' ∧ w'.cell? ⟨wr.heap.size, 0, Option.none⟩ = some (.string t.s)) (by kernel_rfl) ⟨bd2, keeps bd D0.out⟩ (fun hHeld => ?_)
                  refine wpAnyH_take (i := 0) (v := .int .i64 ((j + 1 : Nat) : Int)) rfl (by kernel_rfl) (by kernel_rfl) (by kernel_rfl) (fun _ _ _ h => h) (Or.inl ⟨by rfl, ?yf0⟩) hHeld ?_
                  case yf0 => intro w hSw; go_simp
                  simp only [Act.put, zp]
                  refine wpAnyH_take (i := 1) (v := .bool true) rfl (by kernel_rfl) (by kernel_rfl) (by kernel_rfl) (fun _ _ _ h => h) (Or.inl ⟨by rfl, ?yf1⟩) hHeld ?_
                  case yf1 => intro w hSw; go_simp
                  simp only [Act.put, zp]
                  refine wpAnyH_take (i := 2) (v := .bool true) rfl (by kernel_rfl) (by kernel_rfl) (by kernel_rfl) (fun _ _ _ h => h) (Or.inl ⟨by rfl, ?yf2⟩) hHeld ?_
                  case yf2 => intro w hSw; go_simp
                  simp only [Act.put, zp]
                  refine wpAnyH_take (i := 3) (v := .slice (some ⟨g, off, Option.none⟩) ts.length cap) rfl (by kernel_rfl) (by kernel_rfl) (by kernel_rfl) (fun _ _ _ h => h) (Or.inl ⟨by rfl, ?yf3⟩) hHeld ?_
                  case yf3 => intro w hSw; go_simp
                  simp only [Act.put, zp]
                  refine wpAnyH_take (i := 4) (v := .int .i64 ((j + 1 : Nat) : Int)) rfl (by kernel_rfl) (by kernel_rfl) (by kernel_rfl) (fun _ _ _ h => h) (Or.inl ⟨by rfl, ?yf4⟩) hHeld ?_
                  case yf4 => intro w hSw; go_simp
                  simp only [Act.put, zp]
                  refine wpAnyH_take (i := 5) (v := .int .i64 (j : Int)) rfl (by kernel_rfl) (by kernel_rfl) (by kernel_rfl) (fun _ _ _ h => h) (Or.inl ⟨by rfl, ?yf5⟩) hHeld ?_
                  case yf5 => intro w hSw; go_simp
                  simp only [Act.put, zp]
                  refine wpAnyH_take (i := 6) (v := .pointer (some ⟨g, off + j * 2, Option.none⟩)) rfl (by kernel_rfl) (by kernel_rfl) (by kernel_rfl) (fun _ _ _ h => h) (Or.inl ⟨by rfl, ?yf6⟩) hHeld ?_
                  case yf6 => intro w hSw; go_simp
                  simp only [Act.put, zp]
                  refine wpAnyH_take (i := 7) (v := .pointer (some ⟨g, off + j * 2, Option.none⟩)) rfl (by kernel_rfl) (by kernel_rfl) (by kernel_rfl) (fun _ _ _ h => h) (Or.inl ⟨by rfl, ?yf7⟩) hHeld ?_
                  case yf7 => intro w hSw; go_simp
                  simp only [Act.put, zp]
                  refine wpAnyH_take (i := 8) (v := .string t0.s) rfl (by kernel_rfl) (by kernel_rfl) (by kernel_rfl) (fun _ _ _ h => h) (Or.inl ⟨by rfl, ?yf8⟩) hHeld ?_
                  case yf8 => intro w hSw; have q := keeps hSw.1 C1.out; go_simp
                  simp only [Act.put, zp]
                  refine wpAnyH_take (i := 9) (v := .pointer (some ⟨wr.heap.size, 0, Option.none⟩)) rfl (by kernel_rfl) (by kernel_rfl) (by kernel_rfl) (fun _ _ _ h => h) (Or.inl ⟨by rfl, ?yf9⟩) hHeld ?_
                  case yf9 => intro w hSw; go_simp
                  simp only [Act.put, zp]
                  refine wpAnyH_take (i := 10) (v := .string t.s) rfl (by kernel_rfl) (by kernel_rfl) (by kernel_rfl) (fun _ _ _ h => h) (Or.inl ⟨by rfl, ?yf10⟩) hHeld ?_
                  case yf10 => intro w hSw; have q := hSw.2; go_simp
                  simp only [Act.put, zp]
                  refine wpAnyH_take (i := 11) (v := .bool true) rfl (by kernel_rfl) (by kernel_rfl) (by kernel_rfl) (fun _ _ _ h => h) (Or.inl ⟨by rfl, ?yf11⟩) hHeld ?_
                  case yf11 => intro w hSw; go_simp
                  simp only [Act.put, zp]
                  refine wpAnyH_take (i := 12) (v := .bool true) rfl (by kernel_rfl) (by kernel_rfl) (by kernel_rfl) (fun _ _ _ h => h) (Or.inl ⟨by rfl, ?yf12⟩) hHeld ?_
                  case yf12 => intro w hSw; go_simp
                  simp only [Act.put, zp]
                  refine wpAnyH_done (by kernel_rfl) ?_ _
                  have B6 := hid (hbw.out.trans (hHeld.1.mono hbw.out.size))
                  clear hHeld bd bd2 d0 d1
                  go_wp2
                  go_ret
                  exact ⟨ret_bool h1.out.symm, B6.out⟩
                | true =>
                  have h1 := hid (and_t hd.out (hE2.out.trans hbl))
                  have hbs : Op.bytesLess t0.s.toList t.s.toList = true := hbl
                  clear hd hE2 hbl
                  go_wp2_with fail
                  refine wp_region_held_drew (S := fun w' => Below wr.heap.size wr w' ∧ w'.cell? ⟨wr.heap.size, 0, Option.none⟩ = some (.string t.s)) (by kernel_rfl) ⟨bd2, keeps bd D0.out⟩ (fun hHeld => ?_)
                  refine wpAnyH_take (i := 0) (v := .int .i64 ((j + 1 : Nat) : Int)) rfl (by kernel_rfl) (by kernel_rfl) (by kernel_rfl) (fun _ _ _ h => h) (Or.inl ⟨by rfl, ?ys0⟩) hHeld ?_
                  case ys0 => intro w hSw; go_simp
                  simp only [Act.put, zp]
                  refine wpAnyH_take (i := 1) (v := .bool true) rfl (by kernel_rfl) (by kernel_rfl) (by kernel_rfl) (fun _ _ _ h => h) (Or.inl ⟨by rfl, ?ys1⟩) hHeld ?_
                  case ys1 => intro w hSw; go_simp
                  simp only [Act.put, zp]
                  refine wpAnyH_take (i := 2) (v := .bool true) rfl (by kernel_rfl) (by kernel_rfl) (by kernel_rfl) (fun _ _ _ h => h) (Or.inl ⟨by rfl, ?ys2⟩) hHeld ?_
                  case ys2 => intro w hSw; go_simp
                  simp only [Act.put, zp]
                  refine wpAnyH_take (i := 3) (v := .slice (some ⟨g, off, Option.none⟩) ts.length cap) rfl (by kernel_rfl) (by kernel_rfl) (by kernel_rfl) (fun _ _ _ h => h) (Or.inl ⟨by rfl, ?ys3⟩) hHeld ?_
                  case ys3 => intro w hSw; go_simp
                  simp only [Act.put, zp]
                  refine wpAnyH_take (i := 4) (v := .int .i64 ((j + 1 : Nat) : Int)) rfl (by kernel_rfl) (by kernel_rfl) (by kernel_rfl) (fun _ _ _ h => h) (Or.inl ⟨by rfl, ?ys4⟩) hHeld ?_
                  case ys4 => intro w hSw; go_simp
                  simp only [Act.put, zp]
                  refine wpAnyH_take (i := 5) (v := .int .i64 (j : Int)) rfl (by kernel_rfl) (by kernel_rfl) (by kernel_rfl) (fun _ _ _ h => h) (Or.inl ⟨by rfl, ?ys5⟩) hHeld ?_
                  case ys5 => intro w hSw; go_simp
                  simp only [Act.put, zp]
                  refine wpAnyH_take (i := 6) (v := .pointer (some ⟨g, off + j * 2, Option.none⟩)) rfl (by kernel_rfl) (by kernel_rfl) (by kernel_rfl) (fun _ _ _ h => h) (Or.inl ⟨by rfl, ?ys6⟩) hHeld ?_
                  case ys6 => intro w hSw; go_simp
                  simp only [Act.put, zp]
                  refine wpAnyH_take (i := 7) (v := .pointer (some ⟨g, off + j * 2, Option.none⟩)) rfl (by kernel_rfl) (by kernel_rfl) (by kernel_rfl) (fun _ _ _ h => h) (Or.inl ⟨by rfl, ?ys7⟩) hHeld ?_
                  case ys7 => intro w hSw; go_simp
                  simp only [Act.put, zp]
                  refine wpAnyH_take (i := 8) (v := .string t0.s) rfl (by kernel_rfl) (by kernel_rfl) (by kernel_rfl) (fun _ _ _ h => h) (Or.inl ⟨by rfl, ?ys8⟩) hHeld ?_
                  case ys8 => intro w hSw; have q := keeps hSw.1 C1.out; go_simp
                  simp only [Act.put, zp]
                  refine wpAnyH_take (i := 9) (v := .pointer (some ⟨wr.heap.size, 0, Option.none⟩)) rfl (by kernel_rfl) (by kernel_rfl) (by kernel_rfl) (fun _ _ _ h => h) (Or.inl ⟨by rfl, ?ys9⟩) hHeld ?_
                  case ys9 => intro w hSw; go_simp
                  simp only [Act.put, zp]
                  refine wpAnyH_take (i := 10) (v := .string t.s) rfl (by kernel_rfl) (by kernel_rfl) (by kernel_rfl) (fun _ _ _ h => h) (Or.inl ⟨by rfl, ?ys10⟩) hHeld ?_
                  case ys10 => intro w hSw; have q := hSw.2; go_simp
                  simp only [Act.put, zp]
                  refine wpAnyH_take (i := 11) (v := .bool false) rfl (by kernel_rfl) (by kernel_rfl) (by kernel_rfl) (fun _ _ _ h => h) (Or.inl ⟨by rfl, ?ys11⟩) hHeld ?_
                  case ys11 => intro w hSw; go_simp
                  simp only [Act.put, zp]
                  refine wpAnyH_take (i := 12) (v := .bool false) rfl (by kernel_rfl) (by kernel_rfl) (by kernel_rfl) (fun _ _ _ h => h) (Or.inl ⟨by rfl, ?ys12⟩) hHeld ?_
                  case ys12 => intro w hSw; go_simp
                  simp only [Act.put, zp]
                  refine wpAnyH_done (by kernel_rfl) ?_ _
                  have B6 := hid (hbw.out.trans (hHeld.1.mono hbw.out.size))
                  clear hHeld bd bd2 d0 d1
                  go_wp2
                  go_roundw
                  case rel => exact ⟨(j + 1) + 1, by omega, by go_num, h1, B6⟩
                  case measure => simp [RowKit.intOf]; omega
      · have h1 := hid (show A = true by have := hall.out; rw [List.drop_of_length_le (by omega)] at this; exact this.symm)
        go_wp2
        go_ret
        exact ⟨ret_bool h1.out.symm, hbw.out⟩
  · have h4' : (4 : Int) < (ts.length : Int) := by omega
    have h1 := hid (and_f HA0.out (decide_eq_false (by omega)))
    go_enter Tryz.func72, Tryz.ntmps72
    go_wp2
    go_ret
    exact ⟨ret_bool h1.out.symm, Below.refl _ _⟩
end Go.Proofs.YtfoghiminlbdaaaGreat
