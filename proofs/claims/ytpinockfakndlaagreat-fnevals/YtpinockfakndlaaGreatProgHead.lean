import Derived.Test.YtpinockfakndlaaGreatZp
import Derived.Test.YtpinockfakndlaaGreatP23ofFnEvals
import Derived.Test.YtpinockfakndlaaGreatP24ofFnEvals
namespace Go.Proofs.YtpinockfakndlaaGreat
open Go.RowKit Go.Lib
set_option linter.unusedSimpArgs false
set_option linter.unusedVariables false
def arrB (p : Option AR) (t : AR) : Bool := (nameOk t.s.data.toList && (decide (1 ≤ t.n) && decide (t.n ≤ 16))) && (match p with | some q => blt q.s t.s | Option.none => true)
def arrsB : Option AR → List AR → Bool
  | _, [] => true
  | p, t :: ts => arrB p t && arrsB (some t) ts
def ahead (ts : List AR) : Nat → Option AR
  | 0 => Option.none
  | k + 1 => ts[k]?
theorem arrsB_next {ts : List AR} {k : Nat} {t : AR} (h : ts[k]? = some t) : arrsB (ahead ts k) (ts.drop k) = (arrB (ahead ts k) t && arrsB (ahead ts (k + 1)) (ts.drop (k + 1))) := by
  have hlt := (List.getElem?_eq_some_iff.1 h).1
  have e := (List.getElem?_eq_some_iff.1 h).2
  rw [List.drop_eq_getElem_cons hlt, e]
  show (arrB _ t && arrsB (some t) _) = _
  rw [show ahead ts (k + 1) = some t from h]
def stmtsB : SF → Bool
  | .nil => true
  | .node _ _ h l r => stmtOk h l && stmtsB r
set_option maxHeartbeats 4000000 in
set_option maxRecDepth 100000 in
theorem l4Head_is (ts : List AR) (hn : ts.length ≤ 1048576) (hts : ∀ t ∈ ts, t.s.size ≤ 1048576) (F : SF) (hS : ssize F ≤ 1048576) (A : Bool) (hA : (arrsB Option.none ts && (stmtsB F && (decide (ts.length ≤ 4) && (decide (slen F ≤ 12) && decide (snodes F ≤ 40))))) = A) (va vb : Value) (w : World) (ha : AV w 0 va ts) (hv : SV w 0 F vb) :
    Calls Tryz.prog 62 #[.agg #[va, vb]] w fun e w' => e = .returned (.bool A) ∧ Below w.heap.size w w' := by
  have Ha := hid ha
  have Hv := hid hv
  have Ht := hid hts
  have hF := hid (Nat.le_trans (snodes_le F) hS)
  have hlF := Nat.le_trans (slen_le F) hF.out
  obtain ⟨ao, cap, rfl⟩ := ha.shape
  obtain ⟨vo, vcap, rfl⟩ := hv.shape
  have B := hid (aB w (.cells #[.slice ao ts.length cap, .slice vo (slen F) vcap] 27))
  have R : Hid ((w.alloc (.cells #[.slice ao ts.length cap, .slice vo (slen F) vcap] 27)).cell? ⟨w.heap.size, 0, Option.none⟩ = some (.slice ao ts.length cap)) := box_cell (Below.refl _ _) rfl
  have R' : Hid ((w.alloc (.cells #[.slice ao ts.length cap, .slice vo (slen F) vcap] 27)).cell? ⟨w.heap.size, 1, Option.none⟩ = some (.slice vo (slen F) vcap)) := box_cell (i := 1) (Below.refl _ _) rfl
  have HA : Hid ((arrsB (ahead ts 0) (ts.drop 0) && (stmtsB F && (decide (ts.length ≤ 4) && (decide (slen F ≤ 12) && decide (snodes F ≤ 40))))) = A) := hid hA
  clear ha hv hA hts
  go_enter Tryz.func62, Tryz.ntmps62
  go_wp2
  go_loopw [3] (fun i wr => ∃ k : Nat, k ≤ ts.length ∧ i = .int .i64 k ∧ Hid ((arrsB (ahead ts k) (ts.drop k) && (stmtsB F && (decide (ts.length ≤ 4) && (decide (slen F ≤ 12) && decide (snodes F ≤ 40))))) = A) ∧ Hid (Below w.heap.size w wr) ∧ Hid (wr.cell? ⟨w.heap.size, 0, Option.none⟩ = some (.slice ao ts.length cap)) ∧ Hid (wr.cell? ⟨w.heap.size, 1, Option.none⟩ = some (.slice vo (slen F) vcap))) (fun i _ => ts.length - (RowKit.intOf i).toNat)
  case atStart => exact ⟨0, by omega, rfl, HA, B, R, R'⟩
  case round =>
    obtain ⟨k, hk, rfl, hall, hbw, R0, R1⟩ := hrel
    clear HA B R R'
    have q0 := R0.out
    by_cases hlt : k < ts.length
    · have hltI : (k : Int) < (ts.length : Int) := by omega
      obtain ⟨t, ht⟩ : ∃ t, ts[k]? = some t := ⟨ts[k], List.getElem?_eq_getElem hlt⟩
      obtain ⟨g, off, cap', hvv, hcells⟩ := arrAt_cells (Ha.out.later hbw.out) (by intro e; subst e; simp at hlt)
      injection hvv with e1 e2 e3
      subst e1
      clear e2 e3
      have C0 := hid (hcells k t ht)
      have hd := hid (show (arrB (ahead ts k) t && (arrsB (ahead ts (k + 1)) (ts.drop (k + 1)) && (stmtsB F && (decide (ts.length ≤ 4) && (decide (slen F ≤ 12) && decide (snodes F ≤ 40)))))) = A by rw [← Bool.and_assoc, ← arrsB_next ht]; exact hall.out)
      have hsz : t.s.size ≤ 1048576 := Ht.out t (List.mem_of_getElem? ht)
      have bd : Below wr.heap.size wr wr.drew := (Below.refl _ wr).drew
      clear hall
      obtain ⟨bn, Hbn⟩ : ∃ bn, Hid (nameOk t.s.data.toList = bn) := ⟨_, rfl⟩
      obtain ⟨bi, Hbi⟩ : ∃ bi, Hid ((decide (1 ≤ t.n) && decide (t.n ≤ 16)) = bi) := ⟨_, rfl⟩
      have CN : Hid (∀ w2, Below wr.heap.size wr w2 → Calls Tryz.prog 113 #[.string t.s] w2 fun e w' => e = .returned (.bool bn) ∧ Below w2.heap.size w2 w') := fun w2 _ => spec_NameOk t.s bn Hbn.out (by omega) w2
      have CI : Hid (∀ w2, Calls Tryz.prog 34 #[.int .i64 t.n, .int .i64 1, .int .i64 16] w2 fun e w' => e = .returned (.bool bi) ∧ w2 = w') := fun w2 => In_is t.n 1 16 bi Hbi.out w2
      have hE : Hid (arrB (ahead ts k) t = ((bn && bi) && (match ahead ts k with | some q => blt q.s t.s | Option.none => true))) := by show arrB _ t = _; rw [← Hbn.out, ← Hbi.out]; rfl
      cases bn with
      | false =>
        have h1 := hid (and_f hd.out (by rw [hE.out]; rfl))
        clear hd hE Hbn Hbi CI Ha Hv Ht hcells
        go_wp2_with fail
        refine wp_region_held_drew (S := Below wr.heap.size wr) (by kernel_rfl) bd (fun hHeld => ?_)
        refine wpAnyH_take (i := 0) (v := .pointer (some ⟨w.heap.size, 0, Option.none⟩)) rfl (by kernel_rfl) (by kernel_rfl) (by kernel_rfl) (fun _ _ _ => id) (Or.inl ⟨by rfl, ?yn0⟩) hHeld ?_
        case yn0 => intro w hSw; go_simp
        simp only [Act.put, zp]
        refine wpAnyH_take (i := 1) (v := .slice (some ⟨g, off, Option.none⟩) ts.length cap) rfl (by kernel_rfl) (by kernel_rfl) (by kernel_rfl) (fun _ _ _ => id) (Or.inl ⟨by rfl, ?yn1⟩) hHeld ?_
        case yn1 => intro w hSw; have q := keeps hSw R0.out; go_simp
        simp only [Act.put, zp]
        refine wpAnyH_take (i := 2) (v := .int .i64 (k : Int)) rfl (by kernel_rfl) (by kernel_rfl) (by kernel_rfl) (fun _ _ _ => id) (Or.inl ⟨by rfl, ?yn2⟩) hHeld ?_
        case yn2 => intro w hSw; go_simp
        simp only [Act.put, zp]
        refine wpAnyH_take (i := 3) (v := .pointer (some ⟨g, off + k * 2, Option.none⟩)) rfl (by kernel_rfl) (by kernel_rfl) (by kernel_rfl) (fun _ _ _ => id) (Or.inl ⟨by rfl, ?yn3⟩) hHeld ?_
        case yn3 => intro w hSw; go_simp
        simp only [Act.put, zp]
        refine wpAnyH_take (i := 4) (v := .pointer (some ⟨g, off + k * 2, Option.none⟩)) rfl (by kernel_rfl) (by kernel_rfl) (by kernel_rfl) (fun _ _ _ => id) (Or.inl ⟨by rfl, ?yn4⟩) hHeld ?_
        case yn4 => intro w hSw; go_simp
        simp only [Act.put, zp]
        refine wpAnyH_take (i := 5) (v := .string t.s) rfl (by kernel_rfl) (by kernel_rfl) (by kernel_rfl) (fun _ _ _ => id) (Or.inl ⟨by rfl, ?yn5⟩) hHeld ?_
        case yn5 => intro w hSw; have q := keeps hSw C0.out.1; go_simp
        simp only [Act.put, zp]
        refine wpAnyH_ready (rs := [6]) (by kernel_rfl) (by simp) ?_
        refine AllReadyH.cons rfl (fun K hK => ?_) AllReadyH.nil
        rw [if_pos (by rfl)]
        simp only [zq]
        go_wp2_with fail
        refine (CN.out _ bd).mono ?_
        rintro e w4 ⟨rfl, hb4⟩
        go_wp2_with fail
        refine hK.out _ _ (hHeld.trans (hb4.mono hHeld.size)) (fun hHeld => ?_)
        refine wpAnyH_take (i := 7) (v := .bool true) rfl (by kernel_rfl) (by kernel_rfl) (by kernel_rfl) (fun _ _ _ => id) (Or.inl ⟨by rfl, ?yn7⟩) hHeld ?_
        case yn7 => intro w hSw; go_simp
        simp only [Act.put, zp]
        refine wpAnyH_take (i := 8) (v := .bool true) rfl (by kernel_rfl) (by kernel_rfl) (by kernel_rfl) (fun _ _ _ => id) (Or.inl ⟨by rfl, ?yn8⟩) hHeld ?_
        case yn8 => intro w hSw; go_simp
        simp only [Act.put, zp]
        refine wpAnyH_take (i := 9) (v := undef) rfl (by kernel_rfl) (by kernel_rfl) (by kernel_rfl) (fun _ _ _ => id) (Or.inr ⟨by rfl, rfl⟩) hHeld ?_
        simp only [Act.put, zp]
        refine wpAnyH_take (i := 10) (v := undef) rfl (by kernel_rfl) (by kernel_rfl) (by kernel_rfl) (fun _ _ _ => id) (Or.inr ⟨by rfl, rfl⟩) hHeld ?_
        simp only [Act.put, zp]
        refine wpAnyH_take (i := 11) (v := undef) rfl (by kernel_rfl) (by kernel_rfl) (by kernel_rfl) (fun _ _ _ => id) (Or.inr ⟨by rfl, rfl⟩) hHeld ?_
        simp only [Act.put, zp]
        refine wpAnyH_take (i := 12) (v := undef) rfl (by kernel_rfl) (by kernel_rfl) (by kernel_rfl) (fun _ _ _ => id) (Or.inr ⟨by rfl, rfl⟩) hHeld ?_
        simp only [Act.put, zp]
        refine wpAnyH_take (i := 13) (v := undef) rfl (by kernel_rfl) (by kernel_rfl) (by kernel_rfl) (fun _ _ _ => id) (Or.inr ⟨by rfl, rfl⟩) hHeld ?_
        simp only [Act.put, zp]
        refine wpAnyH_take (i := 14) (v := undef) rfl (by kernel_rfl) (by kernel_rfl) (by kernel_rfl) (fun _ _ _ => id) (Or.inr ⟨by rfl, rfl⟩) hHeld ?_
        simp only [Act.put, zp]
        refine wpAnyH_take (i := 15) (v := undef) rfl (by kernel_rfl) (by kernel_rfl) (by kernel_rfl) (fun _ _ _ => id) (Or.inr ⟨by rfl, rfl⟩) hHeld ?_
        simp only [Act.put, zp]
        refine wpAnyH_take (i := 16) (v := undef) rfl (by kernel_rfl) (by kernel_rfl) (by kernel_rfl) (fun _ _ _ => id) (Or.inr ⟨by rfl, rfl⟩) hHeld ?_
        simp only [Act.put, zp]
        refine wpAnyH_take (i := 17) (v := .bool true) rfl (by kernel_rfl) (by kernel_rfl) (by kernel_rfl) (fun _ _ _ => id) (Or.inl ⟨by rfl, ?yn17⟩) hHeld ?_
        case yn17 => intro w hSw; go_simp
        simp only [Act.put, zp]
        refine wpAnyH_take (i := 18) (v := .bool true) rfl (by kernel_rfl) (by kernel_rfl) (by kernel_rfl) (fun _ _ _ => id) (Or.inl ⟨by rfl, ?yn18⟩) hHeld ?_
        case yn18 => intro w hSw; go_simp
        simp only [Act.put, zp]
        refine wpAnyH_take (i := 19) (v := undef) rfl (by kernel_rfl) (by kernel_rfl) (by kernel_rfl) (fun _ _ _ => id) (Or.inr ⟨by rfl, rfl⟩) hHeld ?_
        simp only [Act.put, zp]
        refine wpAnyH_take (i := 20) (v := undef) rfl (by kernel_rfl) (by kernel_rfl) (by kernel_rfl) (fun _ _ _ => id) (Or.inr ⟨by rfl, rfl⟩) hHeld ?_
        simp only [Act.put, zp]
        refine wpAnyH_take (i := 21) (v := undef) rfl (by kernel_rfl) (by kernel_rfl) (by kernel_rfl) (fun _ _ _ => id) (Or.inr ⟨by rfl, rfl⟩) hHeld ?_
        simp only [Act.put, zp]
        refine wpAnyH_take (i := 22) (v := undef) rfl (by kernel_rfl) (by kernel_rfl) (by kernel_rfl) (fun _ _ _ => id) (Or.inr ⟨by rfl, rfl⟩) hHeld ?_
        simp only [Act.put, zp]
        refine wpAnyH_take (i := 23) (v := undef) rfl (by kernel_rfl) (by kernel_rfl) (by kernel_rfl) (fun _ _ _ => id) (Or.inr ⟨by rfl, rfl⟩) hHeld ?_
        simp only [Act.put, zp]
        refine wpAnyH_take (i := 24) (v := undef) rfl (by kernel_rfl) (by kernel_rfl) (by kernel_rfl) (fun _ _ _ => id) (Or.inr ⟨by rfl, rfl⟩) hHeld ?_
        simp only [Act.put, zp]
        refine wpAnyH_take (i := 25) (v := undef) rfl (by kernel_rfl) (by kernel_rfl) (by kernel_rfl) (fun _ _ _ => id) (Or.inr ⟨by rfl, rfl⟩) hHeld ?_
        simp only [Act.put, zp]
        refine wpAnyH_take (i := 26) (v := undef) rfl (by kernel_rfl) (by kernel_rfl) (by kernel_rfl) (fun _ _ _ => id) (Or.inr ⟨by rfl, rfl⟩) hHeld ?_
        simp only [Act.put, zp]
        refine wpAnyH_take (i := 27) (v := undef) rfl (by kernel_rfl) (by kernel_rfl) (by kernel_rfl) (fun _ _ _ => id) (Or.inr ⟨by rfl, rfl⟩) hHeld ?_
        simp only [Act.put, zp]
        refine wpAnyH_take (i := 28) (v := undef) rfl (by kernel_rfl) (by kernel_rfl) (by kernel_rfl) (fun _ _ _ => id) (Or.inr ⟨by rfl, rfl⟩) hHeld ?_
        simp only [Act.put, zp]
        refine wpAnyH_take (i := 29) (v := undef) rfl (by kernel_rfl) (by kernel_rfl) (by kernel_rfl) (fun _ _ _ => id) (Or.inr ⟨by rfl, rfl⟩) hHeld ?_
        simp only [Act.put, zp]
        refine wpAnyH_take (i := 30) (v := undef) rfl (by kernel_rfl) (by kernel_rfl) (by kernel_rfl) (fun _ _ _ => id) (Or.inr ⟨by rfl, rfl⟩) hHeld ?_
        simp only [Act.put, zp]
        refine wpAnyH_take (i := 31) (v := undef) rfl (by kernel_rfl) (by kernel_rfl) (by kernel_rfl) (fun _ _ _ => id) (Or.inr ⟨by rfl, rfl⟩) hHeld ?_
        simp only [Act.put, zp]
        refine wpAnyH_take (i := 32) (v := undef) rfl (by kernel_rfl) (by kernel_rfl) (by kernel_rfl) (fun _ _ _ => id) (Or.inr ⟨by rfl, rfl⟩) hHeld ?_
        simp only [Act.put, zp]
        refine wpAnyH_take (i := 33) (v := undef) rfl (by kernel_rfl) (by kernel_rfl) (by kernel_rfl) (fun _ _ _ => id) (Or.inr ⟨by rfl, rfl⟩) hHeld ?_
        simp only [Act.put, zp]
        refine wpAnyH_take (i := 34) (v := undef) rfl (by kernel_rfl) (by kernel_rfl) (by kernel_rfl) (fun _ _ _ => id) (Or.inr ⟨by rfl, rfl⟩) hHeld ?_
        simp only [Act.put, zp]
        refine wpAnyH_take (i := 35) (v := undef) rfl (by kernel_rfl) (by kernel_rfl) (by kernel_rfl) (fun _ _ _ => id) (Or.inr ⟨by rfl, rfl⟩) hHeld ?_
        simp only [Act.put, zp]
        refine wpAnyH_take (i := 36) (v := undef) rfl (by kernel_rfl) (by kernel_rfl) (by kernel_rfl) (fun _ _ _ => id) (Or.inr ⟨by rfl, rfl⟩) hHeld ?_
        simp only [Act.put, zp]
        refine wpAnyH_take (i := 37) (v := .bool true) rfl (by kernel_rfl) (by kernel_rfl) (by kernel_rfl) (fun _ _ _ => id) (Or.inl ⟨by rfl, ?yn37⟩) hHeld ?_
        case yn37 => intro w hSw; go_simp
        simp only [Act.put, zp]
        refine wpAnyH_done (by kernel_rfl) ?_ _
        have B4 := hid (hbw.out.trans (hHeld.mono hbw.out.size))
        clear hHeld bd
        go_wp2
        go_ret
        exact ⟨ret_bool h1.out.symm, B4.out⟩
      | true =>
        cases bi with
        | false =>
          have h1 := hid (and_f hd.out (by rw [hE.out]; rfl))
          clear hd hE Hbn Hbi Ha Hv Ht hcells
          go_wp2_with fail
          refine wp_region_held_drew (S := Below wr.heap.size wr) (by kernel_rfl) bd (fun hHeld => ?_)
          refine wpAnyH_take (i := 0) (v := .pointer (some ⟨w.heap.size, 0, Option.none⟩)) rfl (by kernel_rfl) (by kernel_rfl) (by kernel_rfl) (fun _ _ _ => id) (Or.inl ⟨by rfl, ?yi0⟩) hHeld ?_
          case yi0 => intro w hSw; go_simp
          simp only [Act.put, zp]
          refine wpAnyH_take (i := 1) (v := .slice (some ⟨g, off, Option.none⟩) ts.length cap) rfl (by kernel_rfl) (by kernel_rfl) (by kernel_rfl) (fun _ _ _ => id) (Or.inl ⟨by rfl, ?yi1⟩) hHeld ?_
          case yi1 => intro w hSw; have q := keeps hSw R0.out; go_simp
          simp only [Act.put, zp]
          refine wpAnyH_take (i := 2) (v := .int .i64 (k : Int)) rfl (by kernel_rfl) (by kernel_rfl) (by kernel_rfl) (fun _ _ _ => id) (Or.inl ⟨by rfl, ?yi2⟩) hHeld ?_
          case yi2 => intro w hSw; go_simp
          simp only [Act.put, zp]
          refine wpAnyH_take (i := 3) (v := .pointer (some ⟨g, off + k * 2, Option.none⟩)) rfl (by kernel_rfl) (by kernel_rfl) (by kernel_rfl) (fun _ _ _ => id) (Or.inl ⟨by rfl, ?yi3⟩) hHeld ?_
          case yi3 => intro w hSw; go_simp
          simp only [Act.put, zp]
          refine wpAnyH_take (i := 4) (v := .pointer (some ⟨g, off + k * 2, Option.none⟩)) rfl (by kernel_rfl) (by kernel_rfl) (by kernel_rfl) (fun _ _ _ => id) (Or.inl ⟨by rfl, ?yi4⟩) hHeld ?_
          case yi4 => intro w hSw; go_simp
          simp only [Act.put, zp]
          refine wpAnyH_take (i := 5) (v := .string t.s) rfl (by kernel_rfl) (by kernel_rfl) (by kernel_rfl) (fun _ _ _ => id) (Or.inl ⟨by rfl, ?yi5⟩) hHeld ?_
          case yi5 => intro w hSw; have q := keeps hSw C0.out.1; go_simp
          simp only [Act.put, zp]
          refine wpAnyH_ready (rs := [6]) (by kernel_rfl) (by simp) ?_
          refine AllReadyH.cons rfl (fun K hK => ?_) AllReadyH.nil
          rw [if_pos (by rfl)]
          simp only [zq]
          go_wp2_with fail
          refine (CN.out _ bd).mono ?_
          rintro e w4 ⟨rfl, hb4⟩
          go_wp2_with fail
          refine hK.out _ _ (hHeld.trans (hb4.mono hHeld.size)) (fun hHeld => ?_)
          refine wpAnyH_take (i := 7) (v := .bool false) rfl (by kernel_rfl) (by kernel_rfl) (by kernel_rfl) (fun _ _ _ => id) (Or.inl ⟨by rfl, ?yi7⟩) hHeld ?_
          case yi7 => intro w hSw; go_simp
          simp only [Act.put, zp]
          refine wpAnyH_take (i := 8) (v := .bool false) rfl (by kernel_rfl) (by kernel_rfl) (by kernel_rfl) (fun _ _ _ => id) (Or.inl ⟨by rfl, ?yi8⟩) hHeld ?_
          case yi8 => intro w hSw; go_simp
          simp only [Act.put, zp]
          refine wpAnyH_take (i := 9) (v := .pointer (some ⟨w.heap.size, 0, Option.none⟩)) rfl (by kernel_rfl) (by kernel_rfl) (by kernel_rfl) (fun _ _ _ => id) (Or.inl ⟨by rfl, ?yi9⟩) hHeld ?_
          case yi9 => intro w hSw; go_simp
          simp only [Act.put, zp]
          refine wpAnyH_take (i := 10) (v := .slice (some ⟨g, off, Option.none⟩) ts.length cap) rfl (by kernel_rfl) (by kernel_rfl) (by kernel_rfl) (fun _ _ _ => id) (Or.inl ⟨by rfl, ?yi10⟩) hHeld ?_
          case yi10 => intro w hSw; have q := keeps hSw R0.out; go_simp
          simp only [Act.put, zp]
          refine wpAnyH_take (i := 11) (v := .int .i64 (k : Int)) rfl (by kernel_rfl) (by kernel_rfl) (by kernel_rfl) (fun _ _ _ => id) (Or.inl ⟨by rfl, ?yi11⟩) hHeld ?_
          case yi11 => intro w hSw; go_simp
          simp only [Act.put, zp]
          refine wpAnyH_take (i := 12) (v := .pointer (some ⟨g, off + k * 2, Option.none⟩)) rfl (by kernel_rfl) (by kernel_rfl) (by kernel_rfl) (fun _ _ _ => id) (Or.inl ⟨by rfl, ?yi12⟩) hHeld ?_
          case yi12 => intro w hSw; go_simp
          simp only [Act.put, zp]
          refine wpAnyH_take (i := 13) (v := .pointer (some ⟨g, off + k * 2 + 1, Option.none⟩)) rfl (by kernel_rfl) (by kernel_rfl) (by kernel_rfl) (fun _ _ _ => id) (Or.inl ⟨by rfl, ?yi13⟩) hHeld ?_
          case yi13 => intro w hSw; go_simp
          simp only [Act.put, zp]
          refine wpAnyH_take (i := 14) (v := .int .i64 t.n) rfl (by kernel_rfl) (by kernel_rfl) (by kernel_rfl) (fun _ _ _ => id) (Or.inl ⟨by rfl, ?yi14⟩) hHeld ?_
          case yi14 => intro w hSw; have q := keeps hSw C0.out.2; go_simp
          simp only [Act.put, zp]
          refine wpAnyH_ready (rs := [15]) (by kernel_rfl) (by simp) ?_
          refine AllReadyH.cons rfl (fun K hK => ?_) AllReadyH.nil
          rw [if_pos (by rfl)]
          simp only [zq]
          go_wp2_with fail
          refine (CI.out _).mono ?_
          rintro e w5 ⟨rfl, rfl⟩
          go_wp2_with fail
          refine hK.out _ _ (hHeld) (fun hHeld => ?_)
          refine wpAnyH_take (i := 16) (v := .bool true) rfl (by kernel_rfl) (by kernel_rfl) (by kernel_rfl) (fun _ _ _ => id) (Or.inl ⟨by rfl, ?yi16⟩) hHeld ?_
          case yi16 => intro w hSw; go_simp
          simp only [Act.put, zp]
          refine wpAnyH_take (i := 17) (v := .bool true) rfl (by kernel_rfl) (by kernel_rfl) (by kernel_rfl) (fun _ _ _ => id) (Or.inl ⟨by rfl, ?yi17⟩) hHeld ?_
          case yi17 => intro w hSw; go_simp
          simp only [Act.put, zp]
          refine wpAnyH_take (i := 18) (v := .bool true) rfl (by kernel_rfl) (by kernel_rfl) (by kernel_rfl) (fun _ _ _ => id) (Or.inl ⟨by rfl, ?yi18⟩) hHeld ?_
          case yi18 => intro w hSw; go_simp
          simp only [Act.put, zp]
          refine wpAnyH_take (i := 19) (v := undef) rfl (by kernel_rfl) (by kernel_rfl) (by kernel_rfl) (fun _ _ _ => id) (Or.inr ⟨by rfl, rfl⟩) hHeld ?_
          simp only [Act.put, zp]
          refine wpAnyH_take (i := 20) (v := undef) rfl (by kernel_rfl) (by kernel_rfl) (by kernel_rfl) (fun _ _ _ => id) (Or.inr ⟨by rfl, rfl⟩) hHeld ?_
          simp only [Act.put, zp]
          refine wpAnyH_take (i := 21) (v := undef) rfl (by kernel_rfl) (by kernel_rfl) (by kernel_rfl) (fun _ _ _ => id) (Or.inr ⟨by rfl, rfl⟩) hHeld ?_
          simp only [Act.put, zp]
          refine wpAnyH_take (i := 22) (v := undef) rfl (by kernel_rfl) (by kernel_rfl) (by kernel_rfl) (fun _ _ _ => id) (Or.inr ⟨by rfl, rfl⟩) hHeld ?_
          simp only [Act.put, zp]
          refine wpAnyH_take (i := 23) (v := undef) rfl (by kernel_rfl) (by kernel_rfl) (by kernel_rfl) (fun _ _ _ => id) (Or.inr ⟨by rfl, rfl⟩) hHeld ?_
          simp only [Act.put, zp]
          refine wpAnyH_take (i := 24) (v := undef) rfl (by kernel_rfl) (by kernel_rfl) (by kernel_rfl) (fun _ _ _ => id) (Or.inr ⟨by rfl, rfl⟩) hHeld ?_
          simp only [Act.put, zp]
          refine wpAnyH_take (i := 25) (v := undef) rfl (by kernel_rfl) (by kernel_rfl) (by kernel_rfl) (fun _ _ _ => id) (Or.inr ⟨by rfl, rfl⟩) hHeld ?_
          simp only [Act.put, zp]
          refine wpAnyH_take (i := 26) (v := undef) rfl (by kernel_rfl) (by kernel_rfl) (by kernel_rfl) (fun _ _ _ => id) (Or.inr ⟨by rfl, rfl⟩) hHeld ?_
          simp only [Act.put, zp]
          refine wpAnyH_take (i := 27) (v := undef) rfl (by kernel_rfl) (by kernel_rfl) (by kernel_rfl) (fun _ _ _ => id) (Or.inr ⟨by rfl, rfl⟩) hHeld ?_
          simp only [Act.put, zp]
          refine wpAnyH_take (i := 28) (v := undef) rfl (by kernel_rfl) (by kernel_rfl) (by kernel_rfl) (fun _ _ _ => id) (Or.inr ⟨by rfl, rfl⟩) hHeld ?_
          simp only [Act.put, zp]
          refine wpAnyH_take (i := 29) (v := undef) rfl (by kernel_rfl) (by kernel_rfl) (by kernel_rfl) (fun _ _ _ => id) (Or.inr ⟨by rfl, rfl⟩) hHeld ?_
          simp only [Act.put, zp]
          refine wpAnyH_take (i := 30) (v := undef) rfl (by kernel_rfl) (by kernel_rfl) (by kernel_rfl) (fun _ _ _ => id) (Or.inr ⟨by rfl, rfl⟩) hHeld ?_
          simp only [Act.put, zp]
          refine wpAnyH_take (i := 31) (v := undef) rfl (by kernel_rfl) (by kernel_rfl) (by kernel_rfl) (fun _ _ _ => id) (Or.inr ⟨by rfl, rfl⟩) hHeld ?_
          simp only [Act.put, zp]
          refine wpAnyH_take (i := 32) (v := undef) rfl (by kernel_rfl) (by kernel_rfl) (by kernel_rfl) (fun _ _ _ => id) (Or.inr ⟨by rfl, rfl⟩) hHeld ?_
          simp only [Act.put, zp]
          refine wpAnyH_take (i := 33) (v := undef) rfl (by kernel_rfl) (by kernel_rfl) (by kernel_rfl) (fun _ _ _ => id) (Or.inr ⟨by rfl, rfl⟩) hHeld ?_
          simp only [Act.put, zp]
          refine wpAnyH_take (i := 34) (v := undef) rfl (by kernel_rfl) (by kernel_rfl) (by kernel_rfl) (fun _ _ _ => id) (Or.inr ⟨by rfl, rfl⟩) hHeld ?_
          simp only [Act.put, zp]
          refine wpAnyH_take (i := 35) (v := undef) rfl (by kernel_rfl) (by kernel_rfl) (by kernel_rfl) (fun _ _ _ => id) (Or.inr ⟨by rfl, rfl⟩) hHeld ?_
          simp only [Act.put, zp]
          refine wpAnyH_take (i := 36) (v := undef) rfl (by kernel_rfl) (by kernel_rfl) (by kernel_rfl) (fun _ _ _ => id) (Or.inr ⟨by rfl, rfl⟩) hHeld ?_
          simp only [Act.put, zp]
          refine wpAnyH_take (i := 37) (v := .bool true) rfl (by kernel_rfl) (by kernel_rfl) (by kernel_rfl) (fun _ _ _ => id) (Or.inl ⟨by rfl, ?yi37⟩) hHeld ?_
          case yi37 => intro w hSw; go_simp
          simp only [Act.put, zp]
          refine wpAnyH_done (by kernel_rfl) ?_ _
          have B4 := hid (hbw.out.trans (hHeld.mono hbw.out.size))
          clear hHeld bd
          go_wp2
          go_ret
          exact ⟨ret_bool h1.out.symm, B4.out⟩
        | true =>
          cases k with
          | zero =>
            have h1 := hid (and_t hd.out (by rw [hE.out]; rfl))
            clear hd hE Hbn Hbi hcells
            have C0 := hid (show wr.cell? ⟨g, off, Option.none⟩ = some (.string t.s) ∧ wr.cell? ⟨g, off + 1, Option.none⟩ = some (.int .i64 t.n) by simpa using C0.out)
            go_wp2_with fail
            refine wp_region_held_drew (S := Below wr.heap.size wr) (by kernel_rfl) bd (fun hHeld => ?_)
            refine wpAnyH_take (i := 0) (v := .pointer (some ⟨w.heap.size, 0, Option.none⟩)) rfl (by kernel_rfl) (by kernel_rfl) (by kernel_rfl) (fun _ _ _ => id) (Or.inl ⟨by rfl, ?yz0⟩) hHeld ?_
            case yz0 => intro w hSw; go_simp
            simp only [Act.put, zp]
            refine wpAnyH_take (i := 1) (v := .slice (some ⟨g, off, Option.none⟩) ts.length cap) rfl (by kernel_rfl) (by kernel_rfl) (by kernel_rfl) (fun _ _ _ => id) (Or.inl ⟨by rfl, ?yz1⟩) hHeld ?_
            case yz1 => intro w hSw; have q := keeps hSw R0.out; go_simp
            simp only [Act.put, zp]
            refine wpAnyH_take (i := 2) (v := .int .i64 0) rfl (by kernel_rfl) (by kernel_rfl) (by kernel_rfl) (fun _ _ _ => id) (Or.inl ⟨by rfl, ?yz2⟩) hHeld ?_
            case yz2 => intro w hSw; go_simp
            simp only [Act.put, zp]
            refine wpAnyH_take (i := 3) (v := .pointer (some ⟨g, off, Option.none⟩)) rfl (by kernel_rfl) (by kernel_rfl) (by kernel_rfl) (fun _ _ _ => id) (Or.inl ⟨by rfl, ?yz3⟩) hHeld ?_
            case yz3 => intro w hSw; go_simp
            simp only [Act.put, zp]
            refine wpAnyH_take (i := 4) (v := .pointer (some ⟨g, off, Option.none⟩)) rfl (by kernel_rfl) (by kernel_rfl) (by kernel_rfl) (fun _ _ _ => id) (Or.inl ⟨by rfl, ?yz4⟩) hHeld ?_
            case yz4 => intro w hSw; go_simp
            simp only [Act.put, zp]
            refine wpAnyH_take (i := 5) (v := .string t.s) rfl (by kernel_rfl) (by kernel_rfl) (by kernel_rfl) (fun _ _ _ => id) (Or.inl ⟨by rfl, ?yz5⟩) hHeld ?_
            case yz5 => intro w hSw; have q := keeps hSw C0.out.1; go_simp
            simp only [Act.put, zp]
            refine wpAnyH_ready (rs := [6]) (by kernel_rfl) (by simp) ?_
            refine AllReadyH.cons rfl (fun K hK => ?_) AllReadyH.nil
            rw [if_pos (by rfl)]
            simp only [zq]
            go_wp2_with fail
            refine (CN.out _ bd).mono ?_
            rintro e w4 ⟨rfl, hb4⟩
            go_wp2_with fail
            refine hK.out _ _ (hHeld.trans (hb4.mono hHeld.size)) (fun hHeld => ?_)
            refine wpAnyH_take (i := 7) (v := .bool false) rfl (by kernel_rfl) (by kernel_rfl) (by kernel_rfl) (fun _ _ _ => id) (Or.inl ⟨by rfl, ?yz7⟩) hHeld ?_
            case yz7 => intro w hSw; go_simp
            simp only [Act.put, zp]
            refine wpAnyH_take (i := 8) (v := .bool false) rfl (by kernel_rfl) (by kernel_rfl) (by kernel_rfl) (fun _ _ _ => id) (Or.inl ⟨by rfl, ?yz8⟩) hHeld ?_
            case yz8 => intro w hSw; go_simp
            simp only [Act.put, zp]
            refine wpAnyH_take (i := 9) (v := .pointer (some ⟨w.heap.size, 0, Option.none⟩)) rfl (by kernel_rfl) (by kernel_rfl) (by kernel_rfl) (fun _ _ _ => id) (Or.inl ⟨by rfl, ?yz9⟩) hHeld ?_
            case yz9 => intro w hSw; go_simp
            simp only [Act.put, zp]
            refine wpAnyH_take (i := 10) (v := .slice (some ⟨g, off, Option.none⟩) ts.length cap) rfl (by kernel_rfl) (by kernel_rfl) (by kernel_rfl) (fun _ _ _ => id) (Or.inl ⟨by rfl, ?yz10⟩) hHeld ?_
            case yz10 => intro w hSw; have q := keeps hSw R0.out; go_simp
            simp only [Act.put, zp]
            refine wpAnyH_take (i := 11) (v := .int .i64 0) rfl (by kernel_rfl) (by kernel_rfl) (by kernel_rfl) (fun _ _ _ => id) (Or.inl ⟨by rfl, ?yz11⟩) hHeld ?_
            case yz11 => intro w hSw; go_simp
            simp only [Act.put, zp]
            refine wpAnyH_take (i := 12) (v := .pointer (some ⟨g, off, Option.none⟩)) rfl (by kernel_rfl) (by kernel_rfl) (by kernel_rfl) (fun _ _ _ => id) (Or.inl ⟨by rfl, ?yz12⟩) hHeld ?_
            case yz12 => intro w hSw; go_simp
            simp only [Act.put, zp]
            refine wpAnyH_take (i := 13) (v := .pointer (some ⟨g, off + 1, Option.none⟩)) rfl (by kernel_rfl) (by kernel_rfl) (by kernel_rfl) (fun _ _ _ => id) (Or.inl ⟨by rfl, ?yz13⟩) hHeld ?_
            case yz13 => intro w hSw; go_simp
            simp only [Act.put, zp]
            refine wpAnyH_take (i := 14) (v := .int .i64 t.n) rfl (by kernel_rfl) (by kernel_rfl) (by kernel_rfl) (fun _ _ _ => id) (Or.inl ⟨by rfl, ?yz14⟩) hHeld ?_
            case yz14 => intro w hSw; have q := keeps hSw C0.out.2; go_simp
            simp only [Act.put, zp]
            refine wpAnyH_ready (rs := [15]) (by kernel_rfl) (by simp) ?_
            refine AllReadyH.cons rfl (fun K hK => ?_) AllReadyH.nil
            rw [if_pos (by rfl)]
            simp only [zq]
            go_wp2_with fail
            refine (CI.out _).mono ?_
            rintro e w5 ⟨rfl, rfl⟩
            go_wp2_with fail
            refine hK.out _ _ (hHeld) (fun hHeld => ?_)
            refine wpAnyH_take (i := 16) (v := .bool false) rfl (by kernel_rfl) (by kernel_rfl) (by kernel_rfl) (fun _ _ _ => id) (Or.inl ⟨by rfl, ?yz16⟩) hHeld ?_
            case yz16 => intro w hSw; go_simp
            simp only [Act.put, zp]
            refine wpAnyH_take (i := 17) (v := .bool false) rfl (by kernel_rfl) (by kernel_rfl) (by kernel_rfl) (fun _ _ _ => id) (Or.inl ⟨by rfl, ?yz17⟩) hHeld ?_
            case yz17 => intro w hSw; go_simp
            simp only [Act.put, zp]
            refine wpAnyH_take (i := 18) (v := .bool false) rfl (by kernel_rfl) (by kernel_rfl) (by kernel_rfl) (fun _ _ _ => id) (Or.inl ⟨by rfl, ?yz18⟩) hHeld ?_
            case yz18 => intro w hSw; go_simp
            simp only [Act.put, zp]
            refine wpAnyH_take (i := 19) (v := .int .i64 0) rfl (by kernel_rfl) (by kernel_rfl) (by kernel_rfl) (fun _ _ _ => id) (Or.inl ⟨by rfl, ?yz19⟩) hHeld ?_
            case yz19 => intro w hSw; go_simp
            simp only [Act.put, zp]
            refine wpAnyH_take (i := 20) (v := .bool false) rfl (by kernel_rfl) (by kernel_rfl) (by kernel_rfl) (fun _ _ _ => id) (Or.inl ⟨by rfl, ?yz20⟩) hHeld ?_
            case yz20 => intro w hSw; go_simp
            simp only [Act.put, zp]
            refine wpAnyH_take (i := 21) (v := .bool false) rfl (by kernel_rfl) (by kernel_rfl) (by kernel_rfl) (fun _ _ _ => id) (Or.inl ⟨by rfl, ?yz21⟩) hHeld ?_
            case yz21 => intro w hSw; go_simp
            simp only [Act.put, zp]
            refine wpAnyH_take (i := 22) (v := undef) rfl (by kernel_rfl) (by kernel_rfl) (by kernel_rfl) (fun _ _ _ => id) (Or.inr ⟨by rfl, rfl⟩) hHeld ?_
            simp only [Act.put, zp]
            refine wpAnyH_take (i := 23) (v := undef) rfl (by kernel_rfl) (by kernel_rfl) (by kernel_rfl) (fun _ _ _ => id) (Or.inr ⟨by rfl, rfl⟩) hHeld ?_
            simp only [Act.put, zp]
            refine wpAnyH_take (i := 24) (v := undef) rfl (by kernel_rfl) (by kernel_rfl) (by kernel_rfl) (fun _ _ _ => id) (Or.inr ⟨by rfl, rfl⟩) hHeld ?_
            simp only [Act.put, zp]
            refine wpAnyH_take (i := 25) (v := undef) rfl (by kernel_rfl) (by kernel_rfl) (by kernel_rfl) (fun _ _ _ => id) (Or.inr ⟨by rfl, rfl⟩) hHeld ?_
            simp only [Act.put, zp]
            refine wpAnyH_take (i := 26) (v := undef) rfl (by kernel_rfl) (by kernel_rfl) (by kernel_rfl) (fun _ _ _ => id) (Or.inr ⟨by rfl, rfl⟩) hHeld ?_
            simp only [Act.put, zp]
            refine wpAnyH_take (i := 27) (v := undef) rfl (by kernel_rfl) (by kernel_rfl) (by kernel_rfl) (fun _ _ _ => id) (Or.inr ⟨by rfl, rfl⟩) hHeld ?_
            simp only [Act.put, zp]
            refine wpAnyH_take (i := 28) (v := undef) rfl (by kernel_rfl) (by kernel_rfl) (by kernel_rfl) (fun _ _ _ => id) (Or.inr ⟨by rfl, rfl⟩) hHeld ?_
            simp only [Act.put, zp]
            refine wpAnyH_take (i := 29) (v := undef) rfl (by kernel_rfl) (by kernel_rfl) (by kernel_rfl) (fun _ _ _ => id) (Or.inr ⟨by rfl, rfl⟩) hHeld ?_
            simp only [Act.put, zp]
            refine wpAnyH_take (i := 30) (v := undef) rfl (by kernel_rfl) (by kernel_rfl) (by kernel_rfl) (fun _ _ _ => id) (Or.inr ⟨by rfl, rfl⟩) hHeld ?_
            simp only [Act.put, zp]
            refine wpAnyH_take (i := 31) (v := undef) rfl (by kernel_rfl) (by kernel_rfl) (by kernel_rfl) (fun _ _ _ => id) (Or.inr ⟨by rfl, rfl⟩) hHeld ?_
            simp only [Act.put, zp]
            refine wpAnyH_take (i := 32) (v := undef) rfl (by kernel_rfl) (by kernel_rfl) (by kernel_rfl) (fun _ _ _ => id) (Or.inr ⟨by rfl, rfl⟩) hHeld ?_
            simp only [Act.put, zp]
            refine wpAnyH_take (i := 33) (v := undef) rfl (by kernel_rfl) (by kernel_rfl) (by kernel_rfl) (fun _ _ _ => id) (Or.inr ⟨by rfl, rfl⟩) hHeld ?_
            simp only [Act.put, zp]
            refine wpAnyH_take (i := 34) (v := undef) rfl (by kernel_rfl) (by kernel_rfl) (by kernel_rfl) (fun _ _ _ => id) (Or.inr ⟨by rfl, rfl⟩) hHeld ?_
            simp only [Act.put, zp]
            refine wpAnyH_take (i := 35) (v := undef) rfl (by kernel_rfl) (by kernel_rfl) (by kernel_rfl) (fun _ _ _ => id) (Or.inr ⟨by rfl, rfl⟩) hHeld ?_
            simp only [Act.put, zp]
            refine wpAnyH_take (i := 36) (v := .bool false) rfl (by kernel_rfl) (by kernel_rfl) (by kernel_rfl) (fun _ _ _ => id) (Or.inl ⟨by rfl, ?yz36⟩) hHeld ?_
            case yz36 => intro w hSw; go_simp
            simp only [Act.put, zp]
            refine wpAnyH_take (i := 37) (v := .bool false) rfl (by kernel_rfl) (by kernel_rfl) (by kernel_rfl) (fun _ _ _ => id) (Or.inl ⟨by rfl, ?yz37⟩) hHeld ?_
            case yz37 => intro w hSw; go_simp
            simp only [Act.put, zp]
            refine wpAnyH_done (by kernel_rfl) ?_ _
            have B4 := hid (hbw.out.trans (hHeld.mono hbw.out.size))
            have R4 := hid (keeps hHeld R0.out)
            have R5 := hid (keeps hHeld R1.out)
            clear hHeld bd
            go_wp2
            go_roundw
            case rel => exact ⟨0 + 1, by omega, by go_num, h1, B4, R4, R5⟩
            case measure => simp [RowKit.intOf]; omega
          | succ j =>
            obtain ⟨t0, ht0⟩ : ∃ t0, ts[j]? = some t0 := ⟨ts[j], List.getElem?_eq_getElem (by omega)⟩
            have C1 := hid (hcells j t0 ht0).1
            have hE2 := hid (show arrB (ahead ts (j + 1)) t = blt t0.s t.s by rw [hE.out]; show (true && match ts[j]? with | some q => blt q.s t.s | Option.none => true) = _; rw [ht0]; rfl)
            have hjp : (0 : Int) < ((j + 1 : Nat) : Int) := by omega
            have hj1 : ((j + 1 : Nat) : Int) - 1 = (j : Int) := by omega
            have hjl : (j : Int) < (ts.length : Int) := by omega
            have hjn : ¬ (j : Int) + 1 < 0 := by omega
            have hjm : ¬ (j : Int) < 0 := by omega
            have hjw : IntKind.i64.wrap (j : Int) = (j : Int) := wrap_small _ (by omega) (by omega)
            have hjq : (j : Int) + 1 < (ts.length : Int) := by omega
            cases hbl : blt t0.s t.s with
            | false =>
              have h1 := hid (and_f hd.out (hE2.out.trans hbl))
              have hbs : Op.bytesLess t0.s.toList t.s.toList = false := hbl
              clear hd hE hE2 Hbn Hbi hcells hbl
              go_wp2_with fail
              refine wp_region_held_drew (S := Below wr.heap.size wr) (by kernel_rfl) bd (fun hHeld => ?_)
              refine wpAnyH_take (i := 0) (v := .pointer (some ⟨w.heap.size, 0, Option.none⟩)) rfl (by kernel_rfl) (by kernel_rfl) (by kernel_rfl) (fun _ _ _ => id) (Or.inl ⟨by rfl, ?yf0⟩) hHeld ?_
              case yf0 => intro w hSw; go_simp
              simp only [Act.put, zp]
              refine wpAnyH_take (i := 1) (v := .slice (some ⟨g, off, Option.none⟩) ts.length cap) rfl (by kernel_rfl) (by kernel_rfl) (by kernel_rfl) (fun _ _ _ => id) (Or.inl ⟨by rfl, ?yf1⟩) hHeld ?_
              case yf1 => intro w hSw; have q := keeps hSw R0.out; go_simp
              simp only [Act.put, zp]
              refine wpAnyH_take (i := 2) (v := .int .i64 ((j + 1 : Nat) : Int)) rfl (by kernel_rfl) (by kernel_rfl) (by kernel_rfl) (fun _ _ _ => id) (Or.inl ⟨by rfl, ?yf2⟩) hHeld ?_
              case yf2 => intro w hSw; go_simp
              simp only [Act.put, zp]
              refine wpAnyH_take (i := 3) (v := .pointer (some ⟨g, off + (j + 1) * 2, Option.none⟩)) rfl (by kernel_rfl) (by kernel_rfl) (by kernel_rfl) (fun _ _ _ => id) (Or.inl ⟨by rfl, ?yf3⟩) hHeld ?_
              case yf3 => intro w hSw; go_simp
              simp only [Act.put, zp]
              refine wpAnyH_take (i := 4) (v := .pointer (some ⟨g, off + (j + 1) * 2, Option.none⟩)) rfl (by kernel_rfl) (by kernel_rfl) (by kernel_rfl) (fun _ _ _ => id) (Or.inl ⟨by rfl, ?yf4⟩) hHeld ?_
              case yf4 => intro w hSw; go_simp
              simp only [Act.put, zp]
              refine wpAnyH_take (i := 5) (v := .string t.s) rfl (by kernel_rfl) (by kernel_rfl) (by kernel_rfl) (fun _ _ _ => id) (Or.inl ⟨by rfl, ?yf5⟩) hHeld ?_
              case yf5 => intro w hSw; have q := keeps hSw C0.out.1; go_simp
              simp only [Act.put, zp]
              refine wpAnyH_ready (rs := [6]) (by kernel_rfl) (by simp) ?_
              refine AllReadyH.cons rfl (fun K hK => ?_) AllReadyH.nil
              rw [if_pos (by rfl)]
              simp only [zq]
              go_wp2_with fail
              refine (CN.out _ bd).mono ?_
              rintro e w4 ⟨rfl, hb4⟩
              go_wp2_with fail
              refine hK.out _ _ (hHeld.trans (hb4.mono hHeld.size)) (fun hHeld => ?_)
              refine wpAnyH_take (i := 7) (v := .bool false) rfl (by kernel_rfl) (by kernel_rfl) (by kernel_rfl) (fun _ _ _ => id) (Or.inl ⟨by rfl, ?yf7⟩) hHeld ?_
              case yf7 => intro w hSw; go_simp
              simp only [Act.put, zp]
              refine wpAnyH_take (i := 8) (v := .bool false) rfl (by kernel_rfl) (by kernel_rfl) (by kernel_rfl) (fun _ _ _ => id) (Or.inl ⟨by rfl, ?yf8⟩) hHeld ?_
              case yf8 => intro w hSw; go_simp
              simp only [Act.put, zp]
              refine wpAnyH_take (i := 9) (v := .pointer (some ⟨w.heap.size, 0, Option.none⟩)) rfl (by kernel_rfl) (by kernel_rfl) (by kernel_rfl) (fun _ _ _ => id) (Or.inl ⟨by rfl, ?yf9⟩) hHeld ?_
              case yf9 => intro w hSw; go_simp
              simp only [Act.put, zp]
              refine wpAnyH_take (i := 10) (v := .slice (some ⟨g, off, Option.none⟩) ts.length cap) rfl (by kernel_rfl) (by kernel_rfl) (by kernel_rfl) (fun _ _ _ => id) (Or.inl ⟨by rfl, ?yf10⟩) hHeld ?_
              case yf10 => intro w hSw; have q := keeps hSw R0.out; go_simp
              simp only [Act.put, zp]
              refine wpAnyH_take (i := 11) (v := .int .i64 ((j + 1 : Nat) : Int)) rfl (by kernel_rfl) (by kernel_rfl) (by kernel_rfl) (fun _ _ _ => id) (Or.inl ⟨by rfl, ?yf11⟩) hHeld ?_
              case yf11 => intro w hSw; go_simp
              simp only [Act.put, zp]
              refine wpAnyH_take (i := 12) (v := .pointer (some ⟨g, off + (j + 1) * 2, Option.none⟩)) rfl (by kernel_rfl) (by kernel_rfl) (by kernel_rfl) (fun _ _ _ => id) (Or.inl ⟨by rfl, ?yf12⟩) hHeld ?_
              case yf12 => intro w hSw; go_simp
              simp only [Act.put, zp]
              refine wpAnyH_take (i := 13) (v := .pointer (some ⟨g, off + (j + 1) * 2 + 1, Option.none⟩)) rfl (by kernel_rfl) (by kernel_rfl) (by kernel_rfl) (fun _ _ _ => id) (Or.inl ⟨by rfl, ?yf13⟩) hHeld ?_
              case yf13 => intro w hSw; go_simp
              simp only [Act.put, zp]
              refine wpAnyH_take (i := 14) (v := .int .i64 t.n) rfl (by kernel_rfl) (by kernel_rfl) (by kernel_rfl) (fun _ _ _ => id) (Or.inl ⟨by rfl, ?yf14⟩) hHeld ?_
              case yf14 => intro w hSw; have q := keeps hSw C0.out.2; go_simp
              simp only [Act.put, zp]
              refine wpAnyH_ready (rs := [15]) (by kernel_rfl) (by simp) ?_
              refine AllReadyH.cons rfl (fun K hK => ?_) AllReadyH.nil
              rw [if_pos (by rfl)]
              simp only [zq]
              go_wp2_with fail
              refine (CI.out _).mono ?_
              rintro e w5 ⟨rfl, rfl⟩
              go_wp2_with fail
              refine hK.out _ _ (hHeld) (fun hHeld => ?_)
              refine wpAnyH_take (i := 16) (v := .bool false) rfl (by kernel_rfl) (by kernel_rfl) (by kernel_rfl) (fun _ _ _ => id) (Or.inl ⟨by rfl, ?yf16⟩) hHeld ?_
              case yf16 => intro w hSw; go_simp
              simp only [Act.put, zp]
              refine wpAnyH_take (i := 17) (v := .bool false) rfl (by kernel_rfl) (by kernel_rfl) (by kernel_rfl) (fun _ _ _ => id) (Or.inl ⟨by rfl, ?yf17⟩) hHeld ?_
              case yf17 => intro w hSw; go_simp
              simp only [Act.put, zp]
              refine wpAnyH_take (i := 18) (v := .bool false) rfl (by kernel_rfl) (by kernel_rfl) (by kernel_rfl) (fun _ _ _ => id) (Or.inl ⟨by rfl, ?yf18⟩) hHeld ?_
              case yf18 => intro w hSw; go_simp
              simp only [Act.put, zp]
              refine wpAnyH_take (i := 19) (v := .int .i64 ((j + 1 : Nat) : Int)) rfl (by kernel_rfl) (by kernel_rfl) (by kernel_rfl) (fun _ _ _ => id) (Or.inl ⟨by rfl, ?yf19⟩) hHeld ?_
              case yf19 => intro w hSw; go_simp
              simp only [Act.put, zp]
              refine wpAnyH_take (i := 20) (v := .bool true) rfl (by kernel_rfl) (by kernel_rfl) (by kernel_rfl) (fun _ _ _ => id) (Or.inl ⟨by rfl, ?yf20⟩) hHeld ?_
              case yf20 => intro w hSw; go_simp
              simp only [Act.put, zp]
              refine wpAnyH_take (i := 21) (v := .bool true) rfl (by kernel_rfl) (by kernel_rfl) (by kernel_rfl) (fun _ _ _ => id) (Or.inl ⟨by rfl, ?yf21⟩) hHeld ?_
              case yf21 => intro w hSw; go_simp
              simp only [Act.put, zp]
              refine wpAnyH_take (i := 22) (v := .pointer (some ⟨w.heap.size, 0, Option.none⟩)) rfl (by kernel_rfl) (by kernel_rfl) (by kernel_rfl) (fun _ _ _ => id) (Or.inl ⟨by rfl, ?yf22⟩) hHeld ?_
              case yf22 => intro w hSw; go_simp
              simp only [Act.put, zp]
              refine wpAnyH_take (i := 23) (v := .slice (some ⟨g, off, Option.none⟩) ts.length cap) rfl (by kernel_rfl) (by kernel_rfl) (by kernel_rfl) (fun _ _ _ => id) (Or.inl ⟨by rfl, ?yf23⟩) hHeld ?_
              case yf23 => intro w hSw; have q := keeps hSw R0.out; go_simp
              simp only [Act.put, zp]
              refine wpAnyH_take (i := 24) (v := .int .i64 ((j + 1 : Nat) : Int)) rfl (by kernel_rfl) (by kernel_rfl) (by kernel_rfl) (fun _ _ _ => id) (Or.inl ⟨by rfl, ?yf24⟩) hHeld ?_
              case yf24 => intro w hSw; go_simp
              simp only [Act.put, zp]
              refine wpAnyH_take (i := 25) (v := .int .i64 (j : Int)) rfl (by kernel_rfl) (by kernel_rfl) (by kernel_rfl) (fun _ _ _ => id) (Or.inl ⟨by rfl, ?yf25⟩) hHeld ?_
              case yf25 => intro w hSw; go_simp
              simp only [Act.put, zp]
              refine wpAnyH_take (i := 26) (v := .pointer (some ⟨g, off + j * 2, Option.none⟩)) rfl (by kernel_rfl) (by kernel_rfl) (by kernel_rfl) (fun _ _ _ => id) (Or.inl ⟨by rfl, ?yf26⟩) hHeld ?_
              case yf26 => intro w hSw; go_simp
              simp only [Act.put, zp]
              refine wpAnyH_take (i := 27) (v := .pointer (some ⟨g, off + j * 2, Option.none⟩)) rfl (by kernel_rfl) (by kernel_rfl) (by kernel_rfl) (fun _ _ _ => id) (Or.inl ⟨by rfl, ?yf27⟩) hHeld ?_
              case yf27 => intro w hSw; go_simp
              simp only [Act.put, zp]
              refine wpAnyH_take (i := 28) (v := .string t0.s) rfl (by kernel_rfl) (by kernel_rfl) (by kernel_rfl) (fun _ _ _ => id) (Or.inl ⟨by rfl, ?yf28⟩) hHeld ?_
              case yf28 => intro w hSw; have q := keeps hSw C1.out; go_simp
              simp only [Act.put, zp]
              refine wpAnyH_take (i := 29) (v := .pointer (some ⟨w.heap.size, 0, Option.none⟩)) rfl (by kernel_rfl) (by kernel_rfl) (by kernel_rfl) (fun _ _ _ => id) (Or.inl ⟨by rfl, ?yf29⟩) hHeld ?_
              case yf29 => intro w hSw; go_simp
              simp only [Act.put, zp]
              refine wpAnyH_take (i := 30) (v := .slice (some ⟨g, off, Option.none⟩) ts.length cap) rfl (by kernel_rfl) (by kernel_rfl) (by kernel_rfl) (fun _ _ _ => id) (Or.inl ⟨by rfl, ?yf30⟩) hHeld ?_
              case yf30 => intro w hSw; have q := keeps hSw R0.out; go_simp
              simp only [Act.put, zp]
              refine wpAnyH_take (i := 31) (v := .int .i64 ((j + 1 : Nat) : Int)) rfl (by kernel_rfl) (by kernel_rfl) (by kernel_rfl) (fun _ _ _ => id) (Or.inl ⟨by rfl, ?yf31⟩) hHeld ?_
              case yf31 => intro w hSw; go_simp
              simp only [Act.put, zp]
              refine wpAnyH_take (i := 32) (v := .pointer (some ⟨g, off + (j + 1) * 2, Option.none⟩)) rfl (by kernel_rfl) (by kernel_rfl) (by kernel_rfl) (fun _ _ _ => id) (Or.inl ⟨by rfl, ?yf32⟩) hHeld ?_
              case yf32 => intro w hSw; go_simp
              simp only [Act.put, zp]
              refine wpAnyH_take (i := 33) (v := .pointer (some ⟨g, off + (j + 1) * 2, Option.none⟩)) rfl (by kernel_rfl) (by kernel_rfl) (by kernel_rfl) (fun _ _ _ => id) (Or.inl ⟨by rfl, ?yf33⟩) hHeld ?_
              case yf33 => intro w hSw; go_simp
              simp only [Act.put, zp]
              refine wpAnyH_take (i := 34) (v := .string t.s) rfl (by kernel_rfl) (by kernel_rfl) (by kernel_rfl) (fun _ _ _ => id) (Or.inl ⟨by rfl, ?yf34⟩) hHeld ?_
              case yf34 => intro w hSw; have q := keeps hSw C0.out.1; go_simp
              simp only [Act.put, zp]
              refine wpAnyH_take (i := 35) (v := .bool true) rfl (by kernel_rfl) (by kernel_rfl) (by kernel_rfl) (fun _ _ _ => id) (Or.inl ⟨by rfl, ?yf35⟩) hHeld ?_
              case yf35 => intro w hSw; go_simp
              simp only [Act.put, zp]
              refine wpAnyH_take (i := 36) (v := .bool true) rfl (by kernel_rfl) (by kernel_rfl) (by kernel_rfl) (fun _ _ _ => id) (Or.inl ⟨by rfl, ?yf36⟩) hHeld ?_
              case yf36 => intro w hSw; go_simp
              simp only [Act.put, zp]
              refine wpAnyH_take (i := 37) (v := .bool true) rfl (by kernel_rfl) (by kernel_rfl) (by kernel_rfl) (fun _ _ _ => id) (Or.inl ⟨by rfl, ?yf37⟩) hHeld ?_
              case yf37 => intro w hSw; go_simp
              simp only [Act.put, zp]
              refine wpAnyH_done (by kernel_rfl) ?_ _
              have B4 := hid (hbw.out.trans (hHeld.mono hbw.out.size))
              clear hHeld bd
              go_wp2
              go_ret
              exact ⟨ret_bool h1.out.symm, B4.out⟩
            | true =>
              have h1 := hid (and_t hd.out (hE2.out.trans hbl))
              have hbs : Op.bytesLess t0.s.toList t.s.toList = true := hbl
              clear hd hE hE2 Hbn Hbi hcells hbl
              go_wp2_with fail
              refine wp_region_held_drew (S := Below wr.heap.size wr) (by kernel_rfl) bd (fun hHeld => ?_)
              refine wpAnyH_take (i := 0) (v := .pointer (some ⟨w.heap.size, 0, Option.none⟩)) rfl (by kernel_rfl) (by kernel_rfl) (by kernel_rfl) (fun _ _ _ => id) (Or.inl ⟨by rfl, ?ys0⟩) hHeld ?_
              case ys0 => intro w hSw; go_simp
              simp only [Act.put, zp]
              refine wpAnyH_take (i := 1) (v := .slice (some ⟨g, off, Option.none⟩) ts.length cap) rfl (by kernel_rfl) (by kernel_rfl) (by kernel_rfl) (fun _ _ _ => id) (Or.inl ⟨by rfl, ?ys1⟩) hHeld ?_
              case ys1 => intro w hSw; have q := keeps hSw R0.out; go_simp
              simp only [Act.put, zp]
              refine wpAnyH_take (i := 2) (v := .int .i64 ((j + 1 : Nat) : Int)) rfl (by kernel_rfl) (by kernel_rfl) (by kernel_rfl) (fun _ _ _ => id) (Or.inl ⟨by rfl, ?ys2⟩) hHeld ?_
              case ys2 => intro w hSw; go_simp
              simp only [Act.put, zp]
              refine wpAnyH_take (i := 3) (v := .pointer (some ⟨g, off + (j + 1) * 2, Option.none⟩)) rfl (by kernel_rfl) (by kernel_rfl) (by kernel_rfl) (fun _ _ _ => id) (Or.inl ⟨by rfl, ?ys3⟩) hHeld ?_
              case ys3 => intro w hSw; go_simp
              simp only [Act.put, zp]
              refine wpAnyH_take (i := 4) (v := .pointer (some ⟨g, off + (j + 1) * 2, Option.none⟩)) rfl (by kernel_rfl) (by kernel_rfl) (by kernel_rfl) (fun _ _ _ => id) (Or.inl ⟨by rfl, ?ys4⟩) hHeld ?_
              case ys4 => intro w hSw; go_simp
              simp only [Act.put, zp]
              refine wpAnyH_take (i := 5) (v := .string t.s) rfl (by kernel_rfl) (by kernel_rfl) (by kernel_rfl) (fun _ _ _ => id) (Or.inl ⟨by rfl, ?ys5⟩) hHeld ?_
              case ys5 => intro w hSw; have q := keeps hSw C0.out.1; go_simp
              simp only [Act.put, zp]
              refine wpAnyH_ready (rs := [6]) (by kernel_rfl) (by simp) ?_
              refine AllReadyH.cons rfl (fun K hK => ?_) AllReadyH.nil
              rw [if_pos (by rfl)]
              simp only [zq]
              go_wp2_with fail
              refine (CN.out _ bd).mono ?_
              rintro e w4 ⟨rfl, hb4⟩
              go_wp2_with fail
              refine hK.out _ _ (hHeld.trans (hb4.mono hHeld.size)) (fun hHeld => ?_)
              refine wpAnyH_take (i := 7) (v := .bool false) rfl (by kernel_rfl) (by kernel_rfl) (by kernel_rfl) (fun _ _ _ => id) (Or.inl ⟨by rfl, ?ys7⟩) hHeld ?_
              case ys7 => intro w hSw; go_simp
              simp only [Act.put, zp]
              refine wpAnyH_take (i := 8) (v := .bool false) rfl (by kernel_rfl) (by kernel_rfl) (by kernel_rfl) (fun _ _ _ => id) (Or.inl ⟨by rfl, ?ys8⟩) hHeld ?_
              case ys8 => intro w hSw; go_simp
              simp only [Act.put, zp]
              refine wpAnyH_take (i := 9) (v := .pointer (some ⟨w.heap.size, 0, Option.none⟩)) rfl (by kernel_rfl) (by kernel_rfl) (by kernel_rfl) (fun _ _ _ => id) (Or.inl ⟨by rfl, ?ys9⟩) hHeld ?_
              case ys9 => intro w hSw; go_simp
              simp only [Act.put, zp]
              refine wpAnyH_take (i := 10) (v := .slice (some ⟨g, off, Option.none⟩) ts.length cap) rfl (by kernel_rfl) (by kernel_rfl) (by kernel_rfl) (fun _ _ _ => id) (Or.inl ⟨by rfl, ?ys10⟩) hHeld ?_
              case ys10 => intro w hSw; have q := keeps hSw R0.out; go_simp
              simp only [Act.put, zp]
              refine wpAnyH_take (i := 11) (v := .int .i64 ((j + 1 : Nat) : Int)) rfl (by kernel_rfl) (by kernel_rfl) (by kernel_rfl) (fun _ _ _ => id) (Or.inl ⟨by rfl, ?ys11⟩) hHeld ?_
              case ys11 => intro w hSw; go_simp
              simp only [Act.put, zp]
              refine wpAnyH_take (i := 12) (v := .pointer (some ⟨g, off + (j + 1) * 2, Option.none⟩)) rfl (by kernel_rfl) (by kernel_rfl) (by kernel_rfl) (fun _ _ _ => id) (Or.inl ⟨by rfl, ?ys12⟩) hHeld ?_
              case ys12 => intro w hSw; go_simp
              simp only [Act.put, zp]
              refine wpAnyH_take (i := 13) (v := .pointer (some ⟨g, off + (j + 1) * 2 + 1, Option.none⟩)) rfl (by kernel_rfl) (by kernel_rfl) (by kernel_rfl) (fun _ _ _ => id) (Or.inl ⟨by rfl, ?ys13⟩) hHeld ?_
              case ys13 => intro w hSw; go_simp
              simp only [Act.put, zp]
              refine wpAnyH_take (i := 14) (v := .int .i64 t.n) rfl (by kernel_rfl) (by kernel_rfl) (by kernel_rfl) (fun _ _ _ => id) (Or.inl ⟨by rfl, ?ys14⟩) hHeld ?_
              case ys14 => intro w hSw; have q := keeps hSw C0.out.2; go_simp
              simp only [Act.put, zp]
              refine wpAnyH_ready (rs := [15]) (by kernel_rfl) (by simp) ?_
              refine AllReadyH.cons rfl (fun K hK => ?_) AllReadyH.nil
              rw [if_pos (by rfl)]
              simp only [zq]
              go_wp2_with fail
              refine (CI.out _).mono ?_
              rintro e w5 ⟨rfl, rfl⟩
              go_wp2_with fail
              refine hK.out _ _ (hHeld) (fun hHeld => ?_)
              refine wpAnyH_take (i := 16) (v := .bool false) rfl (by kernel_rfl) (by kernel_rfl) (by kernel_rfl) (fun _ _ _ => id) (Or.inl ⟨by rfl, ?ys16⟩) hHeld ?_
              case ys16 => intro w hSw; go_simp
              simp only [Act.put, zp]
              refine wpAnyH_take (i := 17) (v := .bool false) rfl (by kernel_rfl) (by kernel_rfl) (by kernel_rfl) (fun _ _ _ => id) (Or.inl ⟨by rfl, ?ys17⟩) hHeld ?_
              case ys17 => intro w hSw; go_simp
              simp only [Act.put, zp]
              refine wpAnyH_take (i := 18) (v := .bool false) rfl (by kernel_rfl) (by kernel_rfl) (by kernel_rfl) (fun _ _ _ => id) (Or.inl ⟨by rfl, ?ys18⟩) hHeld ?_
              case ys18 => intro w hSw; go_simp
              simp only [Act.put, zp]
              refine wpAnyH_take (i := 19) (v := .int .i64 ((j + 1 : Nat) : Int)) rfl (by kernel_rfl) (by kernel_rfl) (by kernel_rfl) (fun _ _ _ => id) (Or.inl ⟨by rfl, ?ys19⟩) hHeld ?_
              case ys19 => intro w hSw; go_simp
              simp only [Act.put, zp]
              refine wpAnyH_take (i := 20) (v := .bool true) rfl (by kernel_rfl) (by kernel_rfl) (by kernel_rfl) (fun _ _ _ => id) (Or.inl ⟨by rfl, ?ys20⟩) hHeld ?_
              case ys20 => intro w hSw; go_simp
              simp only [Act.put, zp]
              refine wpAnyH_take (i := 21) (v := .bool true) rfl (by kernel_rfl) (by kernel_rfl) (by kernel_rfl) (fun _ _ _ => id) (Or.inl ⟨by rfl, ?ys21⟩) hHeld ?_
              case ys21 => intro w hSw; go_simp
              simp only [Act.put, zp]
              refine wpAnyH_take (i := 22) (v := .pointer (some ⟨w.heap.size, 0, Option.none⟩)) rfl (by kernel_rfl) (by kernel_rfl) (by kernel_rfl) (fun _ _ _ => id) (Or.inl ⟨by rfl, ?ys22⟩) hHeld ?_
              case ys22 => intro w hSw; go_simp
              simp only [Act.put, zp]
              refine wpAnyH_take (i := 23) (v := .slice (some ⟨g, off, Option.none⟩) ts.length cap) rfl (by kernel_rfl) (by kernel_rfl) (by kernel_rfl) (fun _ _ _ => id) (Or.inl ⟨by rfl, ?ys23⟩) hHeld ?_
              case ys23 => intro w hSw; have q := keeps hSw R0.out; go_simp
              simp only [Act.put, zp]
              refine wpAnyH_take (i := 24) (v := .int .i64 ((j + 1 : Nat) : Int)) rfl (by kernel_rfl) (by kernel_rfl) (by kernel_rfl) (fun _ _ _ => id) (Or.inl ⟨by rfl, ?ys24⟩) hHeld ?_
              case ys24 => intro w hSw; go_simp
              simp only [Act.put, zp]
              refine wpAnyH_take (i := 25) (v := .int .i64 (j : Int)) rfl (by kernel_rfl) (by kernel_rfl) (by kernel_rfl) (fun _ _ _ => id) (Or.inl ⟨by rfl, ?ys25⟩) hHeld ?_
              case ys25 => intro w hSw; go_simp
              simp only [Act.put, zp]
              refine wpAnyH_take (i := 26) (v := .pointer (some ⟨g, off + j * 2, Option.none⟩)) rfl (by kernel_rfl) (by kernel_rfl) (by kernel_rfl) (fun _ _ _ => id) (Or.inl ⟨by rfl, ?ys26⟩) hHeld ?_
              case ys26 => intro w hSw; go_simp
              simp only [Act.put, zp]
              refine wpAnyH_take (i := 27) (v := .pointer (some ⟨g, off + j * 2, Option.none⟩)) rfl (by kernel_rfl) (by kernel_rfl) (by kernel_rfl) (fun _ _ _ => id) (Or.inl ⟨by rfl, ?ys27⟩) hHeld ?_
              case ys27 => intro w hSw; go_simp
              simp only [Act.put, zp]
              refine wpAnyH_take (i := 28) (v := .string t0.s) rfl (by kernel_rfl) (by kernel_rfl) (by kernel_rfl) (fun _ _ _ => id) (Or.inl ⟨by rfl, ?ys28⟩) hHeld ?_
              case ys28 => intro w hSw; have q := keeps hSw C1.out; go_simp
              simp only [Act.put, zp]
              refine wpAnyH_take (i := 29) (v := .pointer (some ⟨w.heap.size, 0, Option.none⟩)) rfl (by kernel_rfl) (by kernel_rfl) (by kernel_rfl) (fun _ _ _ => id) (Or.inl ⟨by rfl, ?ys29⟩) hHeld ?_
              case ys29 => intro w hSw; go_simp
              simp only [Act.put, zp]
              refine wpAnyH_take (i := 30) (v := .slice (some ⟨g, off, Option.none⟩) ts.length cap) rfl (by kernel_rfl) (by kernel_rfl) (by kernel_rfl) (fun _ _ _ => id) (Or.inl ⟨by rfl, ?ys30⟩) hHeld ?_
              case ys30 => intro w hSw; have q := keeps hSw R0.out; go_simp
              simp only [Act.put, zp]
              refine wpAnyH_take (i := 31) (v := .int .i64 ((j + 1 : Nat) : Int)) rfl (by kernel_rfl) (by kernel_rfl) (by kernel_rfl) (fun _ _ _ => id) (Or.inl ⟨by rfl, ?ys31⟩) hHeld ?_
              case ys31 => intro w hSw; go_simp
              simp only [Act.put, zp]
              refine wpAnyH_take (i := 32) (v := .pointer (some ⟨g, off + (j + 1) * 2, Option.none⟩)) rfl (by kernel_rfl) (by kernel_rfl) (by kernel_rfl) (fun _ _ _ => id) (Or.inl ⟨by rfl, ?ys32⟩) hHeld ?_
              case ys32 => intro w hSw; go_simp
              simp only [Act.put, zp]
              refine wpAnyH_take (i := 33) (v := .pointer (some ⟨g, off + (j + 1) * 2, Option.none⟩)) rfl (by kernel_rfl) (by kernel_rfl) (by kernel_rfl) (fun _ _ _ => id) (Or.inl ⟨by rfl, ?ys33⟩) hHeld ?_
              case ys33 => intro w hSw; go_simp
              simp only [Act.put, zp]
              refine wpAnyH_take (i := 34) (v := .string t.s) rfl (by kernel_rfl) (by kernel_rfl) (by kernel_rfl) (fun _ _ _ => id) (Or.inl ⟨by rfl, ?ys34⟩) hHeld ?_
              case ys34 => intro w hSw; have q := keeps hSw C0.out.1; go_simp
              simp only [Act.put, zp]
              refine wpAnyH_take (i := 35) (v := .bool false) rfl (by kernel_rfl) (by kernel_rfl) (by kernel_rfl) (fun _ _ _ => id) (Or.inl ⟨by rfl, ?ys35⟩) hHeld ?_
              case ys35 => intro w hSw; go_simp
              simp only [Act.put, zp]
              refine wpAnyH_take (i := 36) (v := .bool false) rfl (by kernel_rfl) (by kernel_rfl) (by kernel_rfl) (fun _ _ _ => id) (Or.inl ⟨by rfl, ?ys36⟩) hHeld ?_
              case ys36 => intro w hSw; go_simp
              simp only [Act.put, zp]
              refine wpAnyH_take (i := 37) (v := .bool false) rfl (by kernel_rfl) (by kernel_rfl) (by kernel_rfl) (fun _ _ _ => id) (Or.inl ⟨by rfl, ?ys37⟩) hHeld ?_
              case ys37 => intro w hSw; go_simp
              simp only [Act.put, zp]
              refine wpAnyH_done (by kernel_rfl) ?_ _
              have B4 := hid (hbw.out.trans (hHeld.mono hbw.out.size))
              have R4 := hid (keeps hHeld R0.out)
              have R5 := hid (keeps hHeld R1.out)
              clear hHeld bd
              go_wp2
              go_roundw
              case rel => exact ⟨(j + 1) + 1, by omega, by go_num, h1, B4, R4, R5⟩
              case measure => simp [RowKit.intOf]; omega
    · have hE := hid (show (stmtsB F && (decide (ts.length ≤ 4) && (decide (slen F ≤ 12) && decide (snodes F ≤ 40)))) = A by have := hall.out; rw [List.drop_of_length_le (by omega)] at this; exact this)
      have q1 := R1.out
      clear hall
      go_wp2
      go_loopw [4] (fun i wr2 => ∃ (R : SF) (j : Nat), i = .int .i64 (j : Int) ∧ Hid (j + slen R = slen F ∧ (stmtsB R && (decide (ts.length ≤ 4) && (decide (slen F ≤ 12) && decide (snodes F ≤ 40)))) = A ∧ ssize R ≤ 1048576) ∧ Hid (∃ b o, (vo = some ⟨b, o, Option.none⟩ ∨ F = .nil) ∧ SIn wr 0 R b (o + j * 19)) ∧ Hid (Below wr.heap.size wr wr2)) (fun i _ => slen F - (RowKit.intOf i).toNat)
      case atStart =>
        obtain ⟨b, o, a', c', hv1, hv2, _, hv4⟩ := Hv.out.later hbw.out
        injection hv1 with e1 e2 e3
        subst e1
        exact ⟨F, 0, rfl, ⟨by omega, hE.out, hS⟩, ⟨b, o, hv2, by simpa using hv4⟩, Below.refl _ _⟩
      case round =>
        obtain ⟨R, j, rfl, hr, hin, hb2⟩ := hrel
        obtain ⟨e1, e2, e3⟩ := hr.out
        have q0 := keeps hb2.out R0.out
        have q1 := keeps hb2.out R1.out
        have B2 := hid (hbw.out.trans (hb2.out.mono hbw.out.size))
        cases R with
        | nil =>
          have hk : ¬ (j : Int) < (slen F : Int) := by simp only [slen] at e1; omega
          have E := hid (show (decide (ts.length ≤ 4) && (decide (slen F ≤ 12) && decide (snodes F ≤ 40))) = A from e2)
          clear hr e2 hin hE
          by_cases h4 : (ts.length : Int) ≤ 4
          · have E1 := hid (and_t E.out (decide_eq_true (by omega)))
            clear E
            by_cases h12 : (slen F : Int) ≤ 12
            · have E2 := hid (and_t E1.out (decide_eq_true (by omega)))
              clear E1
              have CS := hid (fun w2 hb3 => spec_Size F (by have := hF.out; omega) w2 _ (((Hv.out.later hbw.out).later hb2.out).later (w' := w2) hb3))
              go_wp2_with fail
              refine (CS.out _ (Below.refl _ _)).mono ?_
              rintro e w3 ⟨rfl, hb3⟩
              have B3 := hid (B2.out.trans (hb3.mono B2.out.size))
              clear hb3 CS
              by_cases h40 : (snodes F : Int) ≤ 40
              · have E3 := hid (show true = A by rw [← E2.out, decide_eq_true (by omega)])
                go_wp2
                go_ret
                exact ⟨ret_bool (by first | exact E3.out | (rw [hd40]; exact E3.out)), B3.out⟩
              · have E3 := hid (show false = A by rw [← E2.out, decide_eq_false (by omega)])
                have hd40 : decide ((snodes F : Int) ≤ 40) = false := decide_eq_false h40
                go_wp2
                go_ret
                exact ⟨ret_bool (by first | exact E3.out | (rw [hd40]; exact E3.out)), B3.out⟩
            · have E2 := hid (and_f E1.out (decide_eq_false (by omega)))
              clear E1
              go_wp2
              go_ret
              exact ⟨ret_bool E2.out.symm, B2.out⟩
          · have E1 := hid (and_f E.out (decide_eq_false (by omega)))
            clear E
            go_wp2
            go_ret
            exact ⟨ret_bool E1.out.symm, B2.out⟩
        | node p q h l r =>
          have hlt2 : (j : Int) < (slen F : Int) := by simp only [slen] at e1; omega
          have hne : ¬ F = .nil := by intro e; subst e; simp only [slen] at e1; omega
          obtain ⟨b, o, hvo, hin'⟩ := hin.out
          obtain rfl : vo = some ⟨b, o, Option.none⟩ := hvo.resolve_right hne
          have hr0 := hid (SIn_node.1 hin').2
          obtain ⟨v1, v2, v3, v4, u, hv0, hu0, hrg⟩ := SC.range (SC.later (SIn_node.1 hin').1 hb2.out)
          simp only [ssize] at e3
          have Hrg := hid hrg
          have He := hid (And.intro e1 (And.intro e2 e3))
          obtain ⟨bs, Hbs⟩ : ∃ bs, Hid (stmtOk h l = bs) := ⟨_, rfl⟩
          have CS := hid (show Calls Tryz.prog 114 #[.agg (scells h v1 v2 v3 v4 u).toArray] wr fun e w' => e = .returned (.bool bs) ∧ Below wr.heap.size wr w' by rw [← Hbs.out]; exact spec_StmtOk h l (by omega) wr v1 v2 v3 v4 u hv0 hu0)
          clear hr e1 e2 e3 hin hin' hne hvo hrg hv0 hu0 hE
          go_wp2_with (refine wpList_load_mid rfl 98 _ rfl b (o + j * 19) rfl _ _ Hrg.out Tryz.underlying98 rfl sizeIS ?_)
          refine CS.out.mono ?_
          rintro e w3 ⟨rfl, hb3⟩
          have B3 := hid (hb2.out.trans (hb3.mono hb2.out.size))
          have B4 := hid (B2.out.trans (hb3.mono B2.out.size))
          clear hb3 CS Hrg
          cases bs with
          | false =>
            have E := hid (and_f (show (stmtOk h l && (stmtsB r && (decide (ts.length ≤ 4) && (decide (slen F ≤ 12) && decide (snodes F ≤ 40))))) = A by rw [← Bool.and_assoc]; exact He.out.2.1) Hbs.out)
            go_wp2
            go_ret
            exact ⟨ret_bool E.out.symm, B4.out⟩
          | true =>
            have E := hid (and_t (show (stmtOk h l && (stmtsB r && (decide (ts.length ≤ 4) && (decide (slen F ≤ 12) && decide (snodes F ≤ 40))))) = A by rw [← Bool.and_assoc]; exact He.out.2.1) Hbs.out)
            go_wp2
            go_roundw
            case rel => exact ⟨r, j + 1, by go_num, ⟨by have := He.out.1; simp only [slen] at this; omega, E.out, by have := He.out.2.2; omega⟩, ⟨b, o, .inl rfl, by rw [show o + (j + 1) * 19 = o + j * 19 + 19 by omega]; exact hr0.out⟩, B3⟩
            case measure => simp [RowKit.intOf]; omega
end Go.Proofs.YtpinockfakndlaaGreat
