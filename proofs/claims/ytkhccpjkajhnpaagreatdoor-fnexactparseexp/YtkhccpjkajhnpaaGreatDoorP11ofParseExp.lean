/-
  Texts in one: ParImp, ParApart, ParImpE.
-/
import Derived.Test.YtkhccpjkajhnpaaGreatDoorP10ofParseExp
import Derived.Test.YtkhccpjkajhnpaaGreatDoorP03ofParseExp
/-
  The landed reader: the contracts of atEnd, takes, must, next.
-/
namespace Go.Proofs.YtkhccpjkajhnpaaGreatDoor
open Go.RowKit Go.Lib
set_option linter.unusedSimpArgs false
set_option linter.unusedVariables false

/-- The landed reader stands at a sign. -/
structure RdI (b : Nat) (v : Value) (ts : List T) (p : Nat) (w : World) : Prop where
  rg : w.rangeAt b 0 [v, .int .i64 (p : Int)]
  th : w.there b 0 2
  row : RowB b w v ts
  hp : p ≤ ts.length
  hts : ts.length ≤ 600
section
variable {b : Nat} {v : Value} {ts : List T} {p : Nat} {w : World}
theorem RdI.later {w' : World} (s : RdI b v ts p w) (hb : Below w.heap.size w w') : RdI b v ts p w' := ⟨rangeAt_later s.rg hb, there_later s.th hb, s.row.wr (.of_below hb), s.hp, s.hts⟩
theorem RdI.lt (s : RdI b v ts p w) : b < w.heap.size := lt_of_cellA (s.rg 0 _ rfl)
theorem RdI.cells (s : RdI b v ts p w) : w.cell? ⟨b, 0, Option.none⟩ = some v ∧ w.cell? ⟨b, 1, Option.none⟩ = some (.int .i64 (p : Int)) := ⟨s.rg 0 _ rfl, s.rg 1 _ rfl⟩
theorem RdI.free (s : RdI b v ts p w) (i : Nat) (hi : i < 2) : w.frozen? ⟨b, i, Option.none⟩ = false := by have := (s.th i hi).2; rwa [Nat.zero_add] at this
theorem RdI.wset (s : RdI b v ts p w) (i : Nat) (u : Value) : Wr b w (w.setCell ⟨b, i, Option.none⟩ u) := by
  have e : w.setCell ⟨b, i, Option.none⟩ u = w.setCells b i [u] := rfl
  rw [e]
  refine ⟨?_, ?_, ?_, by rw [size_sets]; exact Nat.le_refl _, fun k hk hne => World.heap_setCells_other w b i [u] hk hne⟩
  · exact (below_sets (g := b) (B := b) [u] i (Below.refl _ w) (Nat.le_refl _)).os
  · exact (below_sets (g := b) (B := b) [u] i (Below.refl _ w) (Nat.le_refl _)).tape
  · exact (below_sets (g := b) (B := b) [u] i (Below.refl _ w) (Nat.le_refl _)).output
theorem RdI.setAt (s : RdI b v ts p w) (p' : Nat) (hp : p' ≤ ts.length) : RdI b v ts p' (w.setCell ⟨b, 1, Option.none⟩ (.int .i64 (p' : Int))) := by
  have c := s.cells
  refine ⟨fun j z hj => ?_, World.there_setCells s.th b 1 [.int .i64 (p' : Int)], s.row.wr (s.wset 1 _), hp, s.hts⟩
  match j, hj with
  | 0, hj => injection hj with hj; subst hj; exact (World.cell?_setCell_other _ _ _ _ (by intro e; injection e with e1 e2; cases e2)).trans c.1
  | 1, hj => injection hj with hj; subst hj; exact World.cell?_setCell_same _ _ _ c.2
theorem RdI.out {n o : Nat} {vs : List Value} (s : RdI b v ts p w) (hn : b < n) : RdI b v ts p (w.setCells n o vs) := by
  refine ⟨World.rangeAt_setCells_apart s.rg _ _ _ (.inl (by omega)), World.there_setCells s.th _ _ _, ?_, s.hp, s.hts⟩
  obtain ⟨ao, cap, e, h⟩ := s.row
  refine ⟨ao, cap, e, ?_⟩
  have hB : Below n w (w.setCells n o vs) := below_sets _ _ (Below.refl _ _) (Nat.le_refl _)
  rcases h with h | ⟨g, e2, hg, hc⟩
  · exact .inl h
  · have kc : ∀ (o : Nat) (z : Value), w.cell? ⟨g, o, Option.none⟩ = some z → (w.setCells n _ vs).cell? ⟨g, o, Option.none⟩ = some z := fun o z hz => (hB.cell (p := ⟨g, o, Option.none⟩) (show g < n by omega)).trans hz
    exact .inr ⟨g, e2, hg, fun i t hi => ⟨kc _ _ (hc i t hi).1, kc _ _ (hc i t hi).2.1, kc _ _ (hc i t hi).2.2⟩⟩
end
/-- What a panic carries where a text can't be read. -/
def unreadC : List PanicEntry := [{ v := .iface 9 (.string ⟨#[116, 104, 105, 115, 32, 99, 97, 110, 110, 111, 116, 32, 98, 101, 32, 114, 101, 97, 100]⟩), recovered := false }]
def endR (ts : List T) (p : Nat) : Bool := decide (p = ts.length)
set_option maxHeartbeats 1000000 in
set_option maxRecDepth 100000 in
theorem atEnd_is (b : Nat) (v : Value) (ts : List T) (p : Nat) (R : Bool) (hR : endR ts p = R) (w : World) (st : RdI b v ts p w) :
    Calls Tryz.prog 94 #[.pointer (some ⟨b, 0, none⟩)] w fun e w' => e = .returned (.bool R) ∧ Below w.heap.size w w' := by
  have S := Lib.hid st
  obtain ⟨ao, cap, rfl, _⟩ := st.row
  have hop : ((p : Int) == (ts.length : Int)) = R := by
    rw [← hR, endR]
    by_cases h : p = ts.length
    · simp [h]
    · rw [decide_eq_false h]; simp; omega
  clear st hR
  have bd : Below w.heap.size w w.drew := (Below.refl _ w).drew
  go_enter Tryz.func94, Tryz.ntmps94
  go_wp2_with fail
  refine wp_region_held_drew (S := Below w.heap.size w) (by kernel_rfl) bd (fun hHeld => ?_)
  refine wpAnyH_take (i := 0) (v := .pointer (some ⟨b, 0, Option.none⟩)) rfl (by kernel_rfl) (by kernel_rfl) (by kernel_rfl) (fun _ _ _ h => h) (Or.inl ⟨by rfl, ?ya0⟩) hHeld ?_
  case ya0 => intro w hSw; go_simp
  simp only [Act.put, List.getElem_toArray, List.getElem_cons_succ, List.getElem_cons_zero, List.setIfInBounds_toArray, List.set_cons_zero, List.set_cons_succ]
  refine wpAnyH_take (i := 1) (v := .pointer (some ⟨b, 0, Option.none⟩)) rfl (by kernel_rfl) (by kernel_rfl) (by kernel_rfl) (fun _ _ _ h => h) (Or.inl ⟨by rfl, ?ya1⟩) hHeld ?_
  case ya1 => intro w hSw; go_simp
  simp only [Act.put, List.getElem_toArray, List.getElem_cons_succ, List.getElem_cons_zero, List.setIfInBounds_toArray, List.set_cons_zero, List.set_cons_succ]
  refine wpAnyH_take (i := 2) (v := .pointer (some ⟨b, 1, Option.none⟩)) rfl (by kernel_rfl) (by kernel_rfl) (by kernel_rfl) (fun _ _ _ h => h) (Or.inl ⟨by rfl, ?ya2⟩) hHeld ?_
  case ya2 => intro w hSw; go_simp
  simp only [Act.put, List.getElem_toArray, List.getElem_cons_succ, List.getElem_cons_zero, List.setIfInBounds_toArray, List.set_cons_zero, List.set_cons_succ]
  refine wpAnyH_take (i := 3) (v := .int .i64 (p : Int)) rfl (by kernel_rfl) (by kernel_rfl) (by kernel_rfl) (fun _ _ _ h => h) (Or.inl ⟨by rfl, ?ya3⟩) hHeld ?_
  case ya3 => intro w hSw; have q := (S.out.later hSw).cells; have q0 := q.1; have q1 := q.2; go_simp
  simp only [Act.put, List.getElem_toArray, List.getElem_cons_succ, List.getElem_cons_zero, List.setIfInBounds_toArray, List.set_cons_zero, List.set_cons_succ]
  refine wpAnyH_take (i := 4) (v := .pointer (some ⟨b, 0, Option.none⟩)) rfl (by kernel_rfl) (by kernel_rfl) (by kernel_rfl) (fun _ _ _ h => h) (Or.inl ⟨by rfl, ?ya4⟩) hHeld ?_
  case ya4 => intro w hSw; go_simp
  simp only [Act.put, List.getElem_toArray, List.getElem_cons_succ, List.getElem_cons_zero, List.setIfInBounds_toArray, List.set_cons_zero, List.set_cons_succ]
  refine wpAnyH_take (i := 5) (v := .pointer (some ⟨b, 0, Option.none⟩)) rfl (by kernel_rfl) (by kernel_rfl) (by kernel_rfl) (fun _ _ _ h => h) (Or.inl ⟨by rfl, ?ya5⟩) hHeld ?_
  case ya5 => intro w hSw; go_simp
  simp only [Act.put, List.getElem_toArray, List.getElem_cons_succ, List.getElem_cons_zero, List.setIfInBounds_toArray, List.set_cons_zero, List.set_cons_succ]
  refine wpAnyH_take (i := 6) (v := .pointer (some ⟨b, 0, Option.none⟩)) rfl (by kernel_rfl) (by kernel_rfl) (by kernel_rfl) (fun _ _ _ h => h) (Or.inl ⟨by rfl, ?ya6⟩) hHeld ?_
  case ya6 => intro w hSw; go_simp
  simp only [Act.put, List.getElem_toArray, List.getElem_cons_succ, List.getElem_cons_zero, List.setIfInBounds_toArray, List.set_cons_zero, List.set_cons_succ]
  refine wpAnyH_take (i := 7) (v := .slice ao ts.length cap) rfl (by kernel_rfl) (by kernel_rfl) (by kernel_rfl) (fun _ _ _ h => h) (Or.inl ⟨by rfl, ?ya7⟩) hHeld ?_
  case ya7 => intro w hSw; have q := (S.out.later hSw).cells; have q0 := q.1; have q1 := q.2; go_simp
  simp only [Act.put, List.getElem_toArray, List.getElem_cons_succ, List.getElem_cons_zero, List.setIfInBounds_toArray, List.set_cons_zero, List.set_cons_succ]
  refine wpAnyH_take (i := 8) (v := .int .i64 (ts.length : Int)) rfl (by kernel_rfl) (by kernel_rfl) (by kernel_rfl) (fun _ _ _ h => h) (Or.inl ⟨by rfl, ?ya8⟩) hHeld ?_
  case ya8 => intro w hSw; go_simp
  simp only [Act.put, List.getElem_toArray, List.getElem_cons_succ, List.getElem_cons_zero, List.setIfInBounds_toArray, List.set_cons_zero, List.set_cons_succ]
  refine wpAnyH_take (i := 9) (v := .bool R) rfl (by kernel_rfl) (by kernel_rfl) (by kernel_rfl) (fun _ _ _ h => h) (Or.inl ⟨by rfl, ?ya9⟩) hHeld ?_
  case ya9 => intro w hSw; go_simp
  simp only [Act.put, List.getElem_toArray, List.getElem_cons_succ, List.getElem_cons_zero, List.setIfInBounds_toArray, List.set_cons_zero, List.set_cons_succ]
  refine wpAnyH_take (i := 10) (v := .bool R) rfl (by kernel_rfl) (by kernel_rfl) (by kernel_rfl) (fun _ _ _ h => h) (Or.inl ⟨by rfl, ?ya10⟩) hHeld ?_
  case ya10 => intro w hSw; go_simp
  simp only [Act.put, List.getElem_toArray, List.getElem_cons_succ, List.getElem_cons_zero, List.setIfInBounds_toArray, List.set_cons_zero, List.set_cons_succ]
  refine wpAnyH_done (by kernel_rfl) ?_ _
  have B := Lib.hid hHeld
  clear hHeld bd
  go_wp2
  go_ret
  exact ⟨rfl, B.out⟩
def takesR (s : List UInt8) (l : List T) : Bool := (eat s l).isSome
theorem takesR_at {s : List UInt8} {ts : List T} {p : Nat} {t : T} (h : ts[p]? = some t) : takesR s (ts.drop p) = decide (t.s = s) := by
  rw [dropT h]
  unfold takesR eat
  by_cases e : t.s = s
  · simp [e]
  · simp [e]
theorem takesR_end {s : List UInt8} {ts : List T} {p : Nat} (h : ts.length ≤ p) : takesR s (ts.drop p) = false := by rw [List.drop_of_length_le h]; rfl
set_option maxHeartbeats 2000000 in
set_option maxRecDepth 100000 in
theorem takes_is (b : Nat) (v : Value) (ts : List T) (p : Nat) (s : List UInt8) (R : Bool) (hR : takesR s (ts.drop p) = R) (w : World) (st : RdI b v ts p w) :
    Calls Tryz.prog 95 #[.pointer (some ⟨b, 0, none⟩), .string (bs s)] w fun e w' => e = .returned (.bool R) ∧ RdI b v ts (p + R.toNat) w' ∧ Wr b w w' := by
  have HR := Lib.hid hR
  have S := Lib.hid st
  have hts := st.hts
  have hp := st.hp
  clear hR st
  have bd : Below w.heap.size w w.drew := (Below.refl _ w).drew
  have CK : Hid (∀ W, Below w.heap.size w W → Calls Tryz.prog 94 #[.pointer (some ⟨b, 0, none⟩)] W fun e w' => e = .returned (.bool (endR ts p)) ∧ Below W.heap.size W w') := Lib.hid fun W hW => atEnd_is b v ts p _ rfl W (S.out.later hW)
  by_cases hlt : p < ts.length
  · have hltI : (p : Int) < (ts.length : Int) := by omega
    have hp0 : (0 : Int) ≤ (p : Int) := by omega
    have HE := Lib.hid (show endR ts p = false from decide_eq_false (by omega))
    rw [HE.out] at CK
    obtain ⟨t, ht⟩ : ∃ t, ts[p]? = some t := ⟨ts[p], List.getElem?_eq_getElem hlt⟩
    obtain ⟨g, c, rfl, c0, c1, c2⟩ := S.out.row.at ht
    have C0 := Lib.hid c0
    have C1 := Lib.hid c1
    have C2 := Lib.hid c2
    clear c0 c1 c2
    have hI := Lib.hid (takesR_at (s := s) ht)
    by_cases hs : t.s = s
    · have E := Lib.hid (show R = true by rw [← HR.out, hI.out]; exact decide_eq_true hs)
      have hss : (bs t.s).toList = (bs s).toList := by rw [hs]
      clear hs ht hI HR
      go_enter Tryz.func95, Tryz.ntmps95
      go_wp2_with fail
      refine wp_region_held_drew (S := Below w.heap.size w) (by kernel_rfl) bd (fun hHeld => ?_)
      refine wpAnyH_take (i := 0) (v := .pointer (some ⟨b, 0, Option.none⟩)) rfl (by kernel_rfl) (by kernel_rfl) (by kernel_rfl) (fun _ _ _ h => h) (Or.inl ⟨by rfl, ?yg0⟩) hHeld ?_
      case yg0 => intro w hSw; go_simp
      simp only [Act.put, List.getElem_toArray, List.getElem_cons_succ, List.getElem_cons_zero, List.setIfInBounds_toArray, List.set_cons_zero, List.set_cons_succ]
      refine wpAnyH_ready (rs := [1]) (by kernel_rfl) (by simp) ?_
      refine AllReadyH.cons rfl (fun K hK => ?_) AllReadyH.nil
      rw [if_pos (by rfl)]
      simp only [List.getElem_toArray, List.getElem_cons_succ, List.getElem_cons_zero]
      go_wp2_with fail
      refine (CK.out _ hHeld).mono ?_
      rintro e w2 ⟨rfl, hb2⟩
      go_wp2_with fail
      refine hK.out _ _ (hHeld.trans (hb2.mono hHeld.size)) (fun hHeld => ?_)
      try simp only [Act.put, List.getElem_toArray, List.getElem_cons_succ, List.getElem_cons_zero, List.setIfInBounds_toArray, List.set_cons_zero, List.set_cons_succ]
      refine wpAnyH_take (i := 2) (v := .bool false) rfl (by kernel_rfl) (by kernel_rfl) (by kernel_rfl) (fun _ _ _ h => h) (Or.inl ⟨by rfl, ?yg2⟩) hHeld ?_
      case yg2 => intro w hSw; go_simp
      simp only [Act.put, List.getElem_toArray, List.getElem_cons_succ, List.getElem_cons_zero, List.setIfInBounds_toArray, List.set_cons_zero, List.set_cons_succ]
      refine wpAnyH_take (i := 3) (v := .pointer (some ⟨b, 0, Option.none⟩)) rfl (by kernel_rfl) (by kernel_rfl) (by kernel_rfl) (fun _ _ _ h => h) (Or.inl ⟨by rfl, ?yg3⟩) hHeld ?_
      case yg3 => intro w hSw; go_simp
      simp only [Act.put, List.getElem_toArray, List.getElem_cons_succ, List.getElem_cons_zero, List.setIfInBounds_toArray, List.set_cons_zero, List.set_cons_succ]
      refine wpAnyH_take (i := 4) (v := .pointer (some ⟨b, 0, Option.none⟩)) rfl (by kernel_rfl) (by kernel_rfl) (by kernel_rfl) (fun _ _ _ h => h) (Or.inl ⟨by rfl, ?yg4⟩) hHeld ?_
      case yg4 => intro w hSw; go_simp
      simp only [Act.put, List.getElem_toArray, List.getElem_cons_succ, List.getElem_cons_zero, List.setIfInBounds_toArray, List.set_cons_zero, List.set_cons_succ]
      refine wpAnyH_take (i := 5) (v := .pointer (some ⟨b, 0, Option.none⟩)) rfl (by kernel_rfl) (by kernel_rfl) (by kernel_rfl) (fun _ _ _ h => h) (Or.inl ⟨by rfl, ?yg5⟩) hHeld ?_
      case yg5 => intro w hSw; go_simp
      simp only [Act.put, List.getElem_toArray, List.getElem_cons_succ, List.getElem_cons_zero, List.setIfInBounds_toArray, List.set_cons_zero, List.set_cons_succ]
      refine wpAnyH_take (i := 6) (v := .slice (some ⟨g, 0, Option.none⟩) ts.length c) rfl (by kernel_rfl) (by kernel_rfl) (by kernel_rfl) (fun _ _ _ h => h) (Or.inl ⟨by rfl, ?yg6⟩) hHeld ?_
      case yg6 => intro w hSw; have q := (S.out.later hSw).cells; have q0 := q.1; have q1 := q.2; go_simp
      simp only [Act.put, List.getElem_toArray, List.getElem_cons_succ, List.getElem_cons_zero, List.setIfInBounds_toArray, List.set_cons_zero, List.set_cons_succ]
      refine wpAnyH_take (i := 7) (v := .pointer (some ⟨b, 0, Option.none⟩)) rfl (by kernel_rfl) (by kernel_rfl) (by kernel_rfl) (fun _ _ _ h => h) (Or.inl ⟨by rfl, ?yg7⟩) hHeld ?_
      case yg7 => intro w hSw; go_simp
      simp only [Act.put, List.getElem_toArray, List.getElem_cons_succ, List.getElem_cons_zero, List.setIfInBounds_toArray, List.set_cons_zero, List.set_cons_succ]
      refine wpAnyH_take (i := 8) (v := .pointer (some ⟨b, 0, Option.none⟩)) rfl (by kernel_rfl) (by kernel_rfl) (by kernel_rfl) (fun _ _ _ h => h) (Or.inl ⟨by rfl, ?yg8⟩) hHeld ?_
      case yg8 => intro w hSw; go_simp
      simp only [Act.put, List.getElem_toArray, List.getElem_cons_succ, List.getElem_cons_zero, List.setIfInBounds_toArray, List.set_cons_zero, List.set_cons_succ]
      refine wpAnyH_take (i := 9) (v := .pointer (some ⟨b, 1, Option.none⟩)) rfl (by kernel_rfl) (by kernel_rfl) (by kernel_rfl) (fun _ _ _ h => h) (Or.inl ⟨by rfl, ?yg9⟩) hHeld ?_
      case yg9 => intro w hSw; go_simp
      simp only [Act.put, List.getElem_toArray, List.getElem_cons_succ, List.getElem_cons_zero, List.setIfInBounds_toArray, List.set_cons_zero, List.set_cons_succ]
      refine wpAnyH_take (i := 10) (v := .int .i64 (p : Int)) rfl (by kernel_rfl) (by kernel_rfl) (by kernel_rfl) (fun _ _ _ h => h) (Or.inl ⟨by rfl, ?yg10⟩) hHeld ?_
      case yg10 => intro w hSw; have q := (S.out.later hSw).cells; have q0 := q.1; have q1 := q.2; go_simp
      simp only [Act.put, List.getElem_toArray, List.getElem_cons_succ, List.getElem_cons_zero, List.setIfInBounds_toArray, List.set_cons_zero, List.set_cons_succ]
      refine wpAnyH_take (i := 11) (v := .pointer (some ⟨g, p * 3, Option.none⟩)) rfl (by kernel_rfl) (by kernel_rfl) (by kernel_rfl) (fun _ _ _ h => h) (Or.inl ⟨by rfl, ?yg11⟩) hHeld ?_
      case yg11 => intro w hSw; go_simp
      simp only [Act.put, List.getElem_toArray, List.getElem_cons_succ, List.getElem_cons_zero, List.setIfInBounds_toArray, List.set_cons_zero, List.set_cons_succ]
      refine wpAnyH_take (i := 12) (v := .pointer (some ⟨g, p * 3 + 1, Option.none⟩)) rfl (by kernel_rfl) (by kernel_rfl) (by kernel_rfl) (fun _ _ _ h => h) (Or.inl ⟨by rfl, ?yg12⟩) hHeld ?_
      case yg12 => intro w hSw; go_simp
      simp only [Act.put, List.getElem_toArray, List.getElem_cons_succ, List.getElem_cons_zero, List.setIfInBounds_toArray, List.set_cons_zero, List.set_cons_succ]
      refine wpAnyH_take (i := 13) (v := .string (bs t.s)) rfl (by kernel_rfl) (by kernel_rfl) (by kernel_rfl) (fun _ _ _ h => h) (Or.inl ⟨by rfl, ?yg13⟩) hHeld ?_
      case yg13 => intro w hSw; have q0 := keeps hSw C0.out; have q1 := keeps hSw C1.out; have q2 := keeps hSw C2.out; go_simp
      simp only [Act.put, List.getElem_toArray, List.getElem_cons_succ, List.getElem_cons_zero, List.setIfInBounds_toArray, List.set_cons_zero, List.set_cons_succ]
      refine wpAnyH_take (i := 14) (v := .string (bs s)) rfl (by kernel_rfl) (by kernel_rfl) (by kernel_rfl) (fun _ _ _ h => h) (Or.inl ⟨by rfl, ?yg14⟩) hHeld ?_
      case yg14 => intro w hSw; go_simp
      simp only [Act.put, List.getElem_toArray, List.getElem_cons_succ, List.getElem_cons_zero, List.setIfInBounds_toArray, List.set_cons_zero, List.set_cons_succ]
      refine wpAnyH_take (i := 15) (v := .bool false) rfl (by kernel_rfl) (by kernel_rfl) (by kernel_rfl) (fun _ _ _ h => h) (Or.inl ⟨by rfl, ?yg15⟩) hHeld ?_
      case yg15 => intro w hSw; go_simp
      simp only [Act.put, List.getElem_toArray, List.getElem_cons_succ, List.getElem_cons_zero, List.setIfInBounds_toArray, List.set_cons_zero, List.set_cons_succ]
      refine wpAnyH_take (i := 16) (v := .bool false) rfl (by kernel_rfl) (by kernel_rfl) (by kernel_rfl) (fun _ _ _ h => h) (Or.inl ⟨by rfl, ?yg16⟩) hHeld ?_
      case yg16 => intro w hSw; go_simp
      simp only [Act.put, List.getElem_toArray, List.getElem_cons_succ, List.getElem_cons_zero, List.setIfInBounds_toArray, List.set_cons_zero, List.set_cons_succ]
      refine wpAnyH_done (by kernel_rfl) ?_ _
      have B := Lib.hid hHeld
      have S3 := Lib.hid (S.out.later hHeld)
      clear hHeld bd
      obtain ⟨w3, hw3⟩ : ∃ w3, w2 = w3 := ⟨_, rfl⟩
      rw [hw3] at S3 B ⊢
      clear hw3
      have S4 : Hid (RdI b (.slice (some ⟨g, 0, Option.none⟩) ts.length c) ts (p + 1) (w3.setCell ⟨b, 1, Option.none⟩ (.int .i64 ((p : Int) + 1)))) := Lib.hid (S3.out.setAt (p + 1) (by omega))
      have q1 := S3.out.cells.2
      have q1f := S3.out.free 1 (by omega)
      have hw : IntKind.i64.wrap ((p : Int) + 1) = (p : Int) + 1 := wrap_small _ (by omega) (by omega)
      have WW := Lib.hid ((Wr.of_below (b := b) B.out).trans (S3.out.wset 1 (.int .i64 ((p : Int) + 1))))
      go_wp2
      go_ret
      exact ⟨retB5 E.out.symm, by rw [E.out]; exact S4.out, WW.out⟩
    · have E := Lib.hid (show R = false by rw [← HR.out, hI.out]; exact decide_eq_false hs)
      have hss := bs_ne hs
      clear hs ht hI HR
      go_enter Tryz.func95, Tryz.ntmps95
      go_wp2_with fail
      refine wp_region_held_drew (S := Below w.heap.size w) (by kernel_rfl) bd (fun hHeld => ?_)
      refine wpAnyH_take (i := 0) (v := .pointer (some ⟨b, 0, Option.none⟩)) rfl (by kernel_rfl) (by kernel_rfl) (by kernel_rfl) (fun _ _ _ h => h) (Or.inl ⟨by rfl, ?yh0⟩) hHeld ?_
      case yh0 => intro w hSw; go_simp
      simp only [Act.put, List.getElem_toArray, List.getElem_cons_succ, List.getElem_cons_zero, List.setIfInBounds_toArray, List.set_cons_zero, List.set_cons_succ]
      refine wpAnyH_ready (rs := [1]) (by kernel_rfl) (by simp) ?_
      refine AllReadyH.cons rfl (fun K hK => ?_) AllReadyH.nil
      rw [if_pos (by rfl)]
      simp only [List.getElem_toArray, List.getElem_cons_succ, List.getElem_cons_zero]
      go_wp2_with fail
      refine (CK.out _ hHeld).mono ?_
      rintro e w2 ⟨rfl, hb2⟩
      go_wp2_with fail
      refine hK.out _ _ (hHeld.trans (hb2.mono hHeld.size)) (fun hHeld => ?_)
      try simp only [Act.put, List.getElem_toArray, List.getElem_cons_succ, List.getElem_cons_zero, List.setIfInBounds_toArray, List.set_cons_zero, List.set_cons_succ]
      refine wpAnyH_take (i := 2) (v := .bool false) rfl (by kernel_rfl) (by kernel_rfl) (by kernel_rfl) (fun _ _ _ h => h) (Or.inl ⟨by rfl, ?yh2⟩) hHeld ?_
      case yh2 => intro w hSw; go_simp
      simp only [Act.put, List.getElem_toArray, List.getElem_cons_succ, List.getElem_cons_zero, List.setIfInBounds_toArray, List.set_cons_zero, List.set_cons_succ]
      refine wpAnyH_take (i := 3) (v := .pointer (some ⟨b, 0, Option.none⟩)) rfl (by kernel_rfl) (by kernel_rfl) (by kernel_rfl) (fun _ _ _ h => h) (Or.inl ⟨by rfl, ?yh3⟩) hHeld ?_
      case yh3 => intro w hSw; go_simp
      simp only [Act.put, List.getElem_toArray, List.getElem_cons_succ, List.getElem_cons_zero, List.setIfInBounds_toArray, List.set_cons_zero, List.set_cons_succ]
      refine wpAnyH_take (i := 4) (v := .pointer (some ⟨b, 0, Option.none⟩)) rfl (by kernel_rfl) (by kernel_rfl) (by kernel_rfl) (fun _ _ _ h => h) (Or.inl ⟨by rfl, ?yh4⟩) hHeld ?_
      case yh4 => intro w hSw; go_simp
      simp only [Act.put, List.getElem_toArray, List.getElem_cons_succ, List.getElem_cons_zero, List.setIfInBounds_toArray, List.set_cons_zero, List.set_cons_succ]
      refine wpAnyH_take (i := 5) (v := .pointer (some ⟨b, 0, Option.none⟩)) rfl (by kernel_rfl) (by kernel_rfl) (by kernel_rfl) (fun _ _ _ h => h) (Or.inl ⟨by rfl, ?yh5⟩) hHeld ?_
      case yh5 => intro w hSw; go_simp
      simp only [Act.put, List.getElem_toArray, List.getElem_cons_succ, List.getElem_cons_zero, List.setIfInBounds_toArray, List.set_cons_zero, List.set_cons_succ]
      refine wpAnyH_take (i := 6) (v := .slice (some ⟨g, 0, Option.none⟩) ts.length c) rfl (by kernel_rfl) (by kernel_rfl) (by kernel_rfl) (fun _ _ _ h => h) (Or.inl ⟨by rfl, ?yh6⟩) hHeld ?_
      case yh6 => intro w hSw; have q := (S.out.later hSw).cells; have q0 := q.1; have q1 := q.2; go_simp
      simp only [Act.put, List.getElem_toArray, List.getElem_cons_succ, List.getElem_cons_zero, List.setIfInBounds_toArray, List.set_cons_zero, List.set_cons_succ]
      refine wpAnyH_take (i := 7) (v := .pointer (some ⟨b, 0, Option.none⟩)) rfl (by kernel_rfl) (by kernel_rfl) (by kernel_rfl) (fun _ _ _ h => h) (Or.inl ⟨by rfl, ?yh7⟩) hHeld ?_
      case yh7 => intro w hSw; go_simp
      simp only [Act.put, List.getElem_toArray, List.getElem_cons_succ, List.getElem_cons_zero, List.setIfInBounds_toArray, List.set_cons_zero, List.set_cons_succ]
      refine wpAnyH_take (i := 8) (v := .pointer (some ⟨b, 0, Option.none⟩)) rfl (by kernel_rfl) (by kernel_rfl) (by kernel_rfl) (fun _ _ _ h => h) (Or.inl ⟨by rfl, ?yh8⟩) hHeld ?_
      case yh8 => intro w hSw; go_simp
      simp only [Act.put, List.getElem_toArray, List.getElem_cons_succ, List.getElem_cons_zero, List.setIfInBounds_toArray, List.set_cons_zero, List.set_cons_succ]
      refine wpAnyH_take (i := 9) (v := .pointer (some ⟨b, 1, Option.none⟩)) rfl (by kernel_rfl) (by kernel_rfl) (by kernel_rfl) (fun _ _ _ h => h) (Or.inl ⟨by rfl, ?yh9⟩) hHeld ?_
      case yh9 => intro w hSw; go_simp
      simp only [Act.put, List.getElem_toArray, List.getElem_cons_succ, List.getElem_cons_zero, List.setIfInBounds_toArray, List.set_cons_zero, List.set_cons_succ]
      refine wpAnyH_take (i := 10) (v := .int .i64 (p : Int)) rfl (by kernel_rfl) (by kernel_rfl) (by kernel_rfl) (fun _ _ _ h => h) (Or.inl ⟨by rfl, ?yh10⟩) hHeld ?_
      case yh10 => intro w hSw; have q := (S.out.later hSw).cells; have q0 := q.1; have q1 := q.2; go_simp
      simp only [Act.put, List.getElem_toArray, List.getElem_cons_succ, List.getElem_cons_zero, List.setIfInBounds_toArray, List.set_cons_zero, List.set_cons_succ]
      refine wpAnyH_take (i := 11) (v := .pointer (some ⟨g, p * 3, Option.none⟩)) rfl (by kernel_rfl) (by kernel_rfl) (by kernel_rfl) (fun _ _ _ h => h) (Or.inl ⟨by rfl, ?yh11⟩) hHeld ?_
      case yh11 => intro w hSw; go_simp
      simp only [Act.put, List.getElem_toArray, List.getElem_cons_succ, List.getElem_cons_zero, List.setIfInBounds_toArray, List.set_cons_zero, List.set_cons_succ]
      refine wpAnyH_take (i := 12) (v := .pointer (some ⟨g, p * 3 + 1, Option.none⟩)) rfl (by kernel_rfl) (by kernel_rfl) (by kernel_rfl) (fun _ _ _ h => h) (Or.inl ⟨by rfl, ?yh12⟩) hHeld ?_
      case yh12 => intro w hSw; go_simp
      simp only [Act.put, List.getElem_toArray, List.getElem_cons_succ, List.getElem_cons_zero, List.setIfInBounds_toArray, List.set_cons_zero, List.set_cons_succ]
      refine wpAnyH_take (i := 13) (v := .string (bs t.s)) rfl (by kernel_rfl) (by kernel_rfl) (by kernel_rfl) (fun _ _ _ h => h) (Or.inl ⟨by rfl, ?yh13⟩) hHeld ?_
      case yh13 => intro w hSw; have q0 := keeps hSw C0.out; have q1 := keeps hSw C1.out; have q2 := keeps hSw C2.out; go_simp
      simp only [Act.put, List.getElem_toArray, List.getElem_cons_succ, List.getElem_cons_zero, List.setIfInBounds_toArray, List.set_cons_zero, List.set_cons_succ]
      refine wpAnyH_take (i := 14) (v := .string (bs s)) rfl (by kernel_rfl) (by kernel_rfl) (by kernel_rfl) (fun _ _ _ h => h) (Or.inl ⟨by rfl, ?yh14⟩) hHeld ?_
      case yh14 => intro w hSw; go_simp
      simp only [Act.put, List.getElem_toArray, List.getElem_cons_succ, List.getElem_cons_zero, List.setIfInBounds_toArray, List.set_cons_zero, List.set_cons_succ]
      refine wpAnyH_take (i := 15) (v := .bool true) rfl (by kernel_rfl) (by kernel_rfl) (by kernel_rfl) (fun _ _ _ h => h) (Or.inl ⟨by rfl, ?yh15⟩) hHeld ?_
      case yh15 => intro w hSw; go_simp
      simp only [Act.put, List.getElem_toArray, List.getElem_cons_succ, List.getElem_cons_zero, List.setIfInBounds_toArray, List.set_cons_zero, List.set_cons_succ]
      refine wpAnyH_take (i := 16) (v := .bool true) rfl (by kernel_rfl) (by kernel_rfl) (by kernel_rfl) (fun _ _ _ h => h) (Or.inl ⟨by rfl, ?yh16⟩) hHeld ?_
      case yh16 => intro w hSw; go_simp
      simp only [Act.put, List.getElem_toArray, List.getElem_cons_succ, List.getElem_cons_zero, List.setIfInBounds_toArray, List.set_cons_zero, List.set_cons_succ]
      refine wpAnyH_done (by kernel_rfl) ?_ _
      have B := Lib.hid hHeld
      clear hHeld bd
      go_wp2
      go_ret
      exact ⟨retB5 E.out.symm, by rw [E.out]; exact S.out.later B.out, .of_below B.out⟩
  · have HE := Lib.hid (show endR ts p = true from decide_eq_true (by omega))
    rw [HE.out] at CK
    have E := Lib.hid (show R = false by rw [← HR.out]; exact takesR_end (by omega))
    go_enter Tryz.func95, Tryz.ntmps95
    go_wp2_with fail
    refine wp_region_held_drew (S := Below w.heap.size w) (by kernel_rfl) bd (fun hHeld => ?_)
    refine wpAnyH_take (i := 0) (v := .pointer (some ⟨b, 0, Option.none⟩)) rfl (by kernel_rfl) (by kernel_rfl) (by kernel_rfl) (fun _ _ _ h => h) (Or.inl ⟨by rfl, ?yk0⟩) hHeld ?_
    case yk0 => intro w hSw; go_simp
    simp only [Act.put, List.getElem_toArray, List.getElem_cons_succ, List.getElem_cons_zero, List.setIfInBounds_toArray, List.set_cons_zero, List.set_cons_succ]
    refine wpAnyH_ready (rs := [1]) (by kernel_rfl) (by simp) ?_
    refine AllReadyH.cons rfl (fun K hK => ?_) AllReadyH.nil
    rw [if_pos (by rfl)]
    simp only [List.getElem_toArray, List.getElem_cons_succ, List.getElem_cons_zero]
    go_wp2_with fail
    refine (CK.out _ hHeld).mono ?_
    rintro e w2 ⟨rfl, hb2⟩
    go_wp2_with fail
    refine hK.out _ _ (hHeld.trans (hb2.mono hHeld.size)) (fun hHeld => ?_)
    try simp only [Act.put, List.getElem_toArray, List.getElem_cons_succ, List.getElem_cons_zero, List.setIfInBounds_toArray, List.set_cons_zero, List.set_cons_succ]
    refine wpAnyH_take (i := 2) (v := .bool true) rfl (by kernel_rfl) (by kernel_rfl) (by kernel_rfl) (fun _ _ _ h => h) (Or.inl ⟨by rfl, ?yk2⟩) hHeld ?_
    case yk2 => intro w hSw; go_simp
    simp only [Act.put, List.getElem_toArray, List.getElem_cons_succ, List.getElem_cons_zero, List.setIfInBounds_toArray, List.set_cons_zero, List.set_cons_succ]
    refine wpAnyH_take (i := 3) (v := undef) rfl (by kernel_rfl) (by kernel_rfl) (by kernel_rfl) (fun _ _ _ h => h) (Or.inr ⟨by rfl, rfl⟩) hHeld ?_
    simp only [Act.put, List.getElem_toArray, List.getElem_cons_succ, List.getElem_cons_zero, List.setIfInBounds_toArray, List.set_cons_zero, List.set_cons_succ]
    refine wpAnyH_take (i := 4) (v := undef) rfl (by kernel_rfl) (by kernel_rfl) (by kernel_rfl) (fun _ _ _ h => h) (Or.inr ⟨by rfl, rfl⟩) hHeld ?_
    simp only [Act.put, List.getElem_toArray, List.getElem_cons_succ, List.getElem_cons_zero, List.setIfInBounds_toArray, List.set_cons_zero, List.set_cons_succ]
    refine wpAnyH_take (i := 5) (v := undef) rfl (by kernel_rfl) (by kernel_rfl) (by kernel_rfl) (fun _ _ _ h => h) (Or.inr ⟨by rfl, rfl⟩) hHeld ?_
    simp only [Act.put, List.getElem_toArray, List.getElem_cons_succ, List.getElem_cons_zero, List.setIfInBounds_toArray, List.set_cons_zero, List.set_cons_succ]
    refine wpAnyH_take (i := 6) (v := undef) rfl (by kernel_rfl) (by kernel_rfl) (by kernel_rfl) (fun _ _ _ h => h) (Or.inr ⟨by rfl, rfl⟩) hHeld ?_
    simp only [Act.put, List.getElem_toArray, List.getElem_cons_succ, List.getElem_cons_zero, List.setIfInBounds_toArray, List.set_cons_zero, List.set_cons_succ]
    refine wpAnyH_take (i := 7) (v := undef) rfl (by kernel_rfl) (by kernel_rfl) (by kernel_rfl) (fun _ _ _ h => h) (Or.inr ⟨by rfl, rfl⟩) hHeld ?_
    simp only [Act.put, List.getElem_toArray, List.getElem_cons_succ, List.getElem_cons_zero, List.setIfInBounds_toArray, List.set_cons_zero, List.set_cons_succ]
    refine wpAnyH_take (i := 8) (v := undef) rfl (by kernel_rfl) (by kernel_rfl) (by kernel_rfl) (fun _ _ _ h => h) (Or.inr ⟨by rfl, rfl⟩) hHeld ?_
    simp only [Act.put, List.getElem_toArray, List.getElem_cons_succ, List.getElem_cons_zero, List.setIfInBounds_toArray, List.set_cons_zero, List.set_cons_succ]
    refine wpAnyH_take (i := 9) (v := undef) rfl (by kernel_rfl) (by kernel_rfl) (by kernel_rfl) (fun _ _ _ h => h) (Or.inr ⟨by rfl, rfl⟩) hHeld ?_
    simp only [Act.put, List.getElem_toArray, List.getElem_cons_succ, List.getElem_cons_zero, List.setIfInBounds_toArray, List.set_cons_zero, List.set_cons_succ]
    refine wpAnyH_take (i := 10) (v := undef) rfl (by kernel_rfl) (by kernel_rfl) (by kernel_rfl) (fun _ _ _ h => h) (Or.inr ⟨by rfl, rfl⟩) hHeld ?_
    simp only [Act.put, List.getElem_toArray, List.getElem_cons_succ, List.getElem_cons_zero, List.setIfInBounds_toArray, List.set_cons_zero, List.set_cons_succ]
    refine wpAnyH_take (i := 11) (v := undef) rfl (by kernel_rfl) (by kernel_rfl) (by kernel_rfl) (fun _ _ _ h => h) (Or.inr ⟨by rfl, rfl⟩) hHeld ?_
    simp only [Act.put, List.getElem_toArray, List.getElem_cons_succ, List.getElem_cons_zero, List.setIfInBounds_toArray, List.set_cons_zero, List.set_cons_succ]
    refine wpAnyH_take (i := 12) (v := undef) rfl (by kernel_rfl) (by kernel_rfl) (by kernel_rfl) (fun _ _ _ h => h) (Or.inr ⟨by rfl, rfl⟩) hHeld ?_
    simp only [Act.put, List.getElem_toArray, List.getElem_cons_succ, List.getElem_cons_zero, List.setIfInBounds_toArray, List.set_cons_zero, List.set_cons_succ]
    refine wpAnyH_take (i := 13) (v := undef) rfl (by kernel_rfl) (by kernel_rfl) (by kernel_rfl) (fun _ _ _ h => h) (Or.inr ⟨by rfl, rfl⟩) hHeld ?_
    simp only [Act.put, List.getElem_toArray, List.getElem_cons_succ, List.getElem_cons_zero, List.setIfInBounds_toArray, List.set_cons_zero, List.set_cons_succ]
    refine wpAnyH_take (i := 14) (v := undef) rfl (by kernel_rfl) (by kernel_rfl) (by kernel_rfl) (fun _ _ _ h => h) (Or.inr ⟨by rfl, rfl⟩) hHeld ?_
    simp only [Act.put, List.getElem_toArray, List.getElem_cons_succ, List.getElem_cons_zero, List.setIfInBounds_toArray, List.set_cons_zero, List.set_cons_succ]
    refine wpAnyH_take (i := 15) (v := undef) rfl (by kernel_rfl) (by kernel_rfl) (by kernel_rfl) (fun _ _ _ h => h) (Or.inr ⟨by rfl, rfl⟩) hHeld ?_
    simp only [Act.put, List.getElem_toArray, List.getElem_cons_succ, List.getElem_cons_zero, List.setIfInBounds_toArray, List.set_cons_zero, List.set_cons_succ]
    refine wpAnyH_take (i := 16) (v := .bool true) rfl (by kernel_rfl) (by kernel_rfl) (by kernel_rfl) (fun _ _ _ h => h) (Or.inl ⟨by rfl, ?yk16⟩) hHeld ?_
    case yk16 => intro w hSw; go_simp
    simp only [Act.put, List.getElem_toArray, List.getElem_cons_succ, List.getElem_cons_zero, List.setIfInBounds_toArray, List.set_cons_zero, List.set_cons_succ]
    refine wpAnyH_done (by kernel_rfl) ?_ _
    have B := Lib.hid hHeld
    clear hHeld bd
    go_wp2
    go_ret
    exact ⟨retB5 E.out.symm, by rw [E.out]; exact S.out.later B.out, .of_below B.out⟩
/-- Returned as it should be, or panicked. -/
def mustPost (b : Nat) (v : Value) (ts : List T) (p : Nat) (R : Bool) (w : World) (e : Ending) (w' : World) : Prop := Wr b w w' ∧ ((R = true ∧ e = .returned (.tuple #[]) ∧ RdI b v ts (p + 1) w') ∨ (R = false ∧ e = .panicked unreadC))
set_option maxRecDepth 100000 in
theorem must_is (b : Nat) (v : Value) (ts : List T) (p : Nat) (s : List UInt8) (R : Bool) (hR : takesR s (ts.drop p) = R) (w : World) (st : RdI b v ts p w) :
    Calls Tryz.prog 148 #[.pointer (some ⟨b, 0, none⟩), .string (bs s)] w (mustPost b v ts p R w) := by
  have C := Lib.hid (takes_is b v ts p s R hR w st)
  clear hR st
  go_enter Tryz.func148, Tryz.ntmps148
  go_wp2_with fail
  refine C.out.mono ?_
  rintro e w1 ⟨rfl, s1, h1⟩
  have H := Lib.hid (And.intro s1 h1)
  clear s1 h1 C
  cases R with
  | true =>
    go_wp2
    go_end0
    exact ⟨H.out.2, .inl ⟨rfl, rfl, H.out.1⟩⟩
  | false =>
    go_wp2
    exact ⟨rfl, H.out.2, .inr ⟨rfl, rfl⟩⟩
def tcells (t : T) : List Value := [.int .i64 t.k, .string (bs t.s), .int .i64 t.n]
def zero3T : Array Value := #[.int .i64 0, .string ⟨#[]⟩, .int .i64 0]
theorem sizeTk : (Tryz.prog.info? 86).map (·.size) = some 3 := by kernel_rfl
theorem oneTk (t : T) : (tcells t).toArray.all (·.oneCell') = true := all_oneCell_toArray (fun u hu => by
    simp only [tcells, List.mem_cons, List.not_mem_nil, or_false] at hu
    rcases hu with rfl | rfl | rfl <;> rfl)
theorem RdI.tok {b g c : Nat} {ts : List T} {p q : Nat} {w : World} {t : T} (s : RdI b (.slice (some ⟨g, 0, Option.none⟩) ts.length c) ts q w) (ht : ts[p]? = some t) : w.rangeAt g (p * 3) (tcells t) := by
  obtain ⟨g', c', hvv, c0, c1, c2⟩ := s.row.at ht
  injection hvv with e1 e2 e3
  injection e1 with e1
  injection e1 with e1
  subst e1
  intro j z hj
  match j, hj with
  | 0, hj => injection hj with hj; subst hj; exact c0
  | 1, hj => injection hj with hj; subst hj; exact c1
  | 2, hj => injection hj with hj; subst hj; exact c2
def nextPost (b : Nat) (v : Value) (ts : List T) (p : Nat) (w : World) (e : Ending) (w' : World) : Prop := Wr b w w' ∧ ((∃ t, ts[p]? = some t ∧ e = .returned (.agg (tcells t).toArray) ∧ RdI b v ts (p + 1) w') ∨ (ts.length ≤ p ∧ e = .panicked unreadC))
set_option maxHeartbeats 2000000 in
set_option maxRecDepth 100000 in
theorem next_is (b : Nat) (v : Value) (ts : List T) (p : Nat) (w : World) (st : RdI b v ts p w) :
    Calls Tryz.prog 188 #[.pointer (some ⟨b, 0, none⟩)] w (nextPost b v ts p w) := by
  have hp := st.hp
  have hts := st.hts
  have hbN := st.lt
  have b0 := alloc_below w (.cells zero3T 86)
  have S0 := Lib.hid (st.later b0)
  have B0 := Lib.hid b0
  have T0 := Lib.hid (show (w.alloc (.cells zero3T 86)).there w.heap.size 0 3 from blk_there (arr := zero3T) (t := 86) (by show (w.heap.push _)[w.heap.size]? = _; simp) (Nat.le_refl 3))
  obtain ⟨R, HR⟩ : ∃ R, Hid (endR ts p = R) := ⟨_, rfl⟩
  have CK := Lib.hid (atEnd_is b v ts p R HR.out _ S0.out)
  clear st b0
  go_enter Tryz.func188, Tryz.ntmps188
  go_wp2_with fail
  refine CK.out.mono ?_
  rintro e w1 ⟨rfl, hb1⟩
  have S1 := Lib.hid (S0.out.later hb1)
  have B1 := Lib.hid (B0.out.trans (hb1.mono B0.out.size))
  have T1 := Lib.hid (there_later T0.out hb1)
  have HS1 : Hid (w.heap.size < w1.heap.size) := Lib.hid (by have := hb1.size; rw [World.size_alloc] at this; omega)
  clear hb1 CK S0 B0 T0
  cases R with
  | true =>
    have hE : ts.length ≤ p := by have h := HR.out; unfold endR at h; have := of_decide_eq_true h; omega
    go_wp2
    exact ⟨rfl, .of_below B1.out, .inr ⟨hE, rfl⟩⟩
  | false =>
    have hlt : p < ts.length := by have h := HR.out; unfold endR at h; have := of_decide_eq_false h; omega
    have hltI : (p : Int) < (ts.length : Int) := by omega
    have hp0 : (0 : Int) ≤ (p : Int) := by omega
    obtain ⟨t, ht⟩ : ∃ t, ts[p]? = some t := ⟨ts[p], List.getElem?_eq_getElem hlt⟩
    obtain ⟨g, c, rfl, _, _, _⟩ := S1.out.row.at ht
    have HT := Lib.hid ht
    have C3 := Lib.hid (S1.out.tok ht)
    have bd : Below w1.heap.size w1 w1.drew := (Below.refl _ w1).drew
    clear ht HR
    go_wp2_with fail
    refine wp_region_held_drew (S := Below w1.heap.size w1) (by kernel_rfl) bd (fun hHeld => ?_)
    refine wpAnyH_take (i := 0) (v := .pointer (some ⟨b, 0, Option.none⟩)) rfl (by kernel_rfl) (by kernel_rfl) (by kernel_rfl) (fun _ _ _ h => h) (Or.inl ⟨by rfl, ?yn0⟩) hHeld ?_
    case yn0 => intro w hSw; go_simp
    simp only [Act.put, List.getElem_toArray, List.getElem_cons_succ, List.getElem_cons_zero, List.setIfInBounds_toArray, List.set_cons_zero, List.set_cons_succ]
    refine wpAnyH_take (i := 1) (v := .pointer (some ⟨b, 0, Option.none⟩)) rfl (by kernel_rfl) (by kernel_rfl) (by kernel_rfl) (fun _ _ _ h => h) (Or.inl ⟨by rfl, ?yn1⟩) hHeld ?_
    case yn1 => intro w hSw; go_simp
    simp only [Act.put, List.getElem_toArray, List.getElem_cons_succ, List.getElem_cons_zero, List.setIfInBounds_toArray, List.set_cons_zero, List.set_cons_succ]
    refine wpAnyH_take (i := 2) (v := .pointer (some ⟨b, 0, Option.none⟩)) rfl (by kernel_rfl) (by kernel_rfl) (by kernel_rfl) (fun _ _ _ h => h) (Or.inl ⟨by rfl, ?yn2⟩) hHeld ?_
    case yn2 => intro w hSw; go_simp
    simp only [Act.put, List.getElem_toArray, List.getElem_cons_succ, List.getElem_cons_zero, List.setIfInBounds_toArray, List.set_cons_zero, List.set_cons_succ]
    refine wpAnyH_take (i := 3) (v := .slice (some ⟨g, 0, Option.none⟩) ts.length c) rfl (by kernel_rfl) (by kernel_rfl) (by kernel_rfl) (fun _ _ _ h => h) (Or.inl ⟨by rfl, ?yn3⟩) hHeld ?_
    case yn3 => intro w hSw; have q := (S1.out.later hSw).cells; have q0 := q.1; have q1 := q.2; go_simp
    simp only [Act.put, List.getElem_toArray, List.getElem_cons_succ, List.getElem_cons_zero, List.setIfInBounds_toArray, List.set_cons_zero, List.set_cons_succ]
    refine wpAnyH_take (i := 4) (v := .pointer (some ⟨b, 0, Option.none⟩)) rfl (by kernel_rfl) (by kernel_rfl) (by kernel_rfl) (fun _ _ _ h => h) (Or.inl ⟨by rfl, ?yn4⟩) hHeld ?_
    case yn4 => intro w hSw; go_simp
    simp only [Act.put, List.getElem_toArray, List.getElem_cons_succ, List.getElem_cons_zero, List.setIfInBounds_toArray, List.set_cons_zero, List.set_cons_succ]
    refine wpAnyH_take (i := 5) (v := .pointer (some ⟨b, 0, Option.none⟩)) rfl (by kernel_rfl) (by kernel_rfl) (by kernel_rfl) (fun _ _ _ h => h) (Or.inl ⟨by rfl, ?yn5⟩) hHeld ?_
    case yn5 => intro w hSw; go_simp
    simp only [Act.put, List.getElem_toArray, List.getElem_cons_succ, List.getElem_cons_zero, List.setIfInBounds_toArray, List.set_cons_zero, List.set_cons_succ]
    refine wpAnyH_take (i := 6) (v := .pointer (some ⟨b, 1, Option.none⟩)) rfl (by kernel_rfl) (by kernel_rfl) (by kernel_rfl) (fun _ _ _ h => h) (Or.inl ⟨by rfl, ?yn6⟩) hHeld ?_
    case yn6 => intro w hSw; go_simp
    simp only [Act.put, List.getElem_toArray, List.getElem_cons_succ, List.getElem_cons_zero, List.setIfInBounds_toArray, List.set_cons_zero, List.set_cons_succ]
    refine wpAnyH_take (i := 7) (v := .int .i64 (p : Int)) rfl (by kernel_rfl) (by kernel_rfl) (by kernel_rfl) (fun _ _ _ h => h) (Or.inl ⟨by rfl, ?yn7⟩) hHeld ?_
    case yn7 => intro w hSw; have q := (S1.out.later hSw).cells; have q0 := q.1; have q1 := q.2; go_simp
    simp only [Act.put, List.getElem_toArray, List.getElem_cons_succ, List.getElem_cons_zero, List.setIfInBounds_toArray, List.set_cons_zero, List.set_cons_succ]
    refine wpAnyH_take (i := 8) (v := .pointer (some ⟨g, p * 3, Option.none⟩)) rfl (by kernel_rfl) (by kernel_rfl) (by kernel_rfl) (fun _ _ _ h => h) (Or.inl ⟨by rfl, ?yn8⟩) hHeld ?_
    case yn8 => intro w hSw; go_simp
    simp only [Act.put, List.getElem_toArray, List.getElem_cons_succ, List.getElem_cons_zero, List.setIfInBounds_toArray, List.set_cons_zero, List.set_cons_succ]
    refine wpAnyH_take (i := 9) (v := .agg (tcells t).toArray) rfl (by kernel_rfl) (by kernel_rfl) (by kernel_rfl) (fun _ _ _ h => h) (yieldsIf_load_mid (by rfl) 86 _ rfl (g) (p * 3) rfl (tcells t) _ (fun w h => rangeAt_later C3.out h) Tryz.underlying86 rfl sizeTk) hHeld ?_
    simp only [Act.put, List.getElem_toArray, List.getElem_cons_succ, List.getElem_cons_zero, List.setIfInBounds_toArray, List.set_cons_zero, List.set_cons_succ]
    refine wpAnyH_ready (rs := [10]) (by kernel_rfl) (by simp) ?_
    refine AllReadyH.cons rfl (fun K hK => ?_) AllReadyH.nil
    rw [if_pos (by rfl)]
    simp only [List.getElem_toArray, List.getElem_cons_succ, List.getElem_cons_zero]
    go_wp2_with fail
    refine hK.out _ _ (hHeld.alloc hHeld.size _) (fun hHeld => ?_)
    refine wpAnyH_ready (rs := [11]) (by kernel_rfl) (by simp) ?_
    refine AllReadyH.cons rfl (fun K hK => ?_) AllReadyH.nil
    rw [if_pos (by rfl)]
    simp only [List.getElem_toArray, List.getElem_cons_succ, List.getElem_cons_zero]
    have hTh : ((w1.alloc (Obj.cells #[Value.int IntKind.i64 0, Value.string { data := #[] }, Value.int IntKind.i64 0] 86)).drew).there w1.heap.size 0 3 := blk_there (arr := zero3T) (t := 86) (by show (w1.heap.push _)[w1.heap.size]? = _; simp [zero3T]) (Nat.le_refl 3)
    refine wp_store_mid 86 _ _ rfl w1.heap.size 0 (tcells t).toArray rfl rfl hTh sizeTk (oneTk t) ?_
    obtain ⟨W, hW⟩ : ∃ W, ((w1.alloc (Obj.cells #[Value.int IntKind.i64 0, Value.string { data := #[] }, Value.int IntKind.i64 0] 86)).drew).setCells w1.heap.size 0 (tcells t) = W := ⟨_, rfl⟩
    rw [show ((w1.alloc (Obj.cells #[Value.int IntKind.i64 0, Value.string { data := #[] }, Value.int IntKind.i64 0] 86)).drew).setCells w1.heap.size 0 (tcells t).toArray.toList = W from hW]
    have RW : W.rangeAt w1.heap.size 0 (tcells t) := by rw [← hW]; exact World.rangeAt_setCells_same _ _ _ _ hTh
    refine hK.out _ _ (by rw [← hW]; exact below_sets _ _ hHeld (Nat.le_refl _)) (fun hHeld => ?_)
    refine wpAnyH_done (by kernel_rfl) ?_ _
    have BW := Lib.hid hHeld
    have RW2 := Lib.hid RW
    clear hHeld bd hW RW
    obtain ⟨n, hn⟩ : ∃ n, w1.heap.size = n := ⟨_, rfl⟩
    have S2 := Lib.hid (S1.out.later BW.out)
    have T2 := Lib.hid (there_later T1.out BW.out)
    have BB := Lib.hid (B1.out.trans (BW.out.mono B1.out.size))
    have hNn : w.heap.size < n := by rw [← hn]; exact HS1.out
    rw [hn] at RW2 ⊢
    have hbn : b < n := by rw [← hn]; exact S1.out.lt
    clear S1 T1 B1 BW C3 hn
    have q1 := S2.out.cells.2
    have q1f := S2.out.free 1 (by omega)
    have hw : IntKind.i64.wrap ((p : Int) + 1) = (p : Int) + 1 := wrap_small _ (by omega) (by omega)
    have S4 : Hid (RdI b (.slice (some ⟨g, 0, Option.none⟩) ts.length c) ts (p + 1) (W.setCell ⟨b, 1, Option.none⟩ (.int .i64 ((p : Int) + 1)))) := Lib.hid (S2.out.setAt (p + 1) (by omega))
    have W4 := Lib.hid (S2.out.wset 1 (.int .i64 ((p : Int) + 1)))
    have r4 : Hid ((W.setCell ⟨b, 1, Option.none⟩ (.int .i64 ((p : Int) + 1))).rangeAt n 0 (tcells t)) := Lib.hid (range_wr5 RW2.out W4.out (by omega))
    have t4 : Hid ((W.setCell ⟨b, 1, Option.none⟩ (.int .i64 ((p : Int) + 1))).there w.heap.size 0 3) := Lib.hid (World.there_setCells T2.out b 1 [.int .i64 ((p : Int) + 1)])
    go_wp2_with (first | (refine wpList_load_mid rfl 86 _ rfl n 0 rfl _ _ r4.out Tryz.underlying86 rfl sizeTk ?_) | (refine store_abs rfl 86 _ _ rfl w.heap.size 0 (tcells t).toArray rfl rfl t4.out sizeTk (oneTk t) ?_; intro W5 hW5))
    have r5 : W5.rangeAt w.heap.size 0 (tcells t) := by rw [← hW5]; exact World.rangeAt_setCells_same _ _ _ _ t4.out
    have b5 : Wr b w W5 := by rw [← hW5]; exact ((Wr.of_below (b := b) BB.out).trans W4.out).setsOut (Nat.le_refl _)
    have s5 : RdI b (.slice (some ⟨g, 0, Option.none⟩) ts.length c) ts (p + 1) W5 := by rw [← hW5]; exact S4.out.out (by omega)
    have hlv := run_loadVar_mid W5 w.heap.size 0 _ _ _ r5 Tryz.underlying86 rfl sizeTk
    refine bodyPost_ret (v := .agg (tcells t).toArray) ?_ rfl ⟨b5, .inl ⟨t, HT.out, rfl, s5⟩⟩
    simp [results, Tryz.results188, asAddr, hlv, Act.put]
    try rfl
end Go.Proofs.YtkhccpjkajhnpaaGreatDoor
/-
  Trees whose rows lie in blocks of their own, each subtree in a stretch of blocks of its own; what panics hand on.
-/
namespace Go.Proofs.YtkhccpjkajhnpaaGreatDoor
open Go.RowKit Go.Lib
set_option linter.unusedSimpArgs false
set_option linter.unusedVariables false

/-- A row of expressions at b, o, in cells that may be written; what stands under them lies from lo up to hi, one behind the other. -/
def EA (w : World) : EF → Nat → Nat → Nat → Nat → Prop
  | .nil, _, _, _, _ => True
  | .node _ _ h l r, lo, hi, b, o =>
    rdF w ⟨b, o, Option.none⟩ = some (.int .i64 h.k) ∧ rdF w ⟨b, o + 1, Option.none⟩ = some (.int .i64 h.n) ∧ rdF w ⟨b, o + 2, Option.none⟩ = some (.string h.s) ∧
      ∃ v mid, rdF w ⟨b, o + 3, Option.none⟩ = some v ∧ lo ≤ mid ∧ mid ≤ hi ∧ ((l = .nil ∧ ∃ a c, v = .slice a 0 c) ∨ ∃ g c, lo ≤ g ∧ g < mid ∧ v = .slice (some ⟨g, 0, Option.none⟩) (elen l) c ∧ EA w l lo g g 0) ∧ EA w r mid hi b (o + 4)
def EVA (w : World) (lo hi : Nat) (F : EF) (v : Value) : Prop := (F = .nil ∧ ∃ a c, v = .slice a 0 c) ∨ ∃ g c, lo ≤ g ∧ g < hi ∧ v = .slice (some ⟨g, 0, Option.none⟩) (elen F) c ∧ EA w F lo g g 0
theorem EA_same {w w' : World} {lo0 hi0 : Nat} (hs : ∀ (a : Addr) v, lo0 ≤ a.block → a.block < hi0 → rdF w a = some v → rdF w' a = some v) : ∀ (F : EF) (lo hi lo' hi' b o : Nat), lo' ≤ lo → hi ≤ hi' → lo0 ≤ lo → hi ≤ hi0 → lo0 ≤ b → b < hi0 → EA w F lo hi b o → EA w' F lo' hi' b o
  | .nil, _, _, _, _, _, _, _, _, _, _, _, _, _ => trivial
  | .node _ _ h l r, lo, hi, lo', hi', b, o, e1, e2, e3, e4, e5, e6, ⟨h0, h1, h2, v, mid, h3, m1, m2, h4, h5⟩ => by
    refine ⟨hs _ _ e5 e6 h0, hs _ _ e5 e6 h1, hs _ _ e5 e6 h2, v, mid, hs _ _ e5 e6 h3, Nat.le_trans e1 m1, Nat.le_trans m2 e2, ?_, EA_same hs r mid hi mid hi' b (o + 4) (Nat.le_refl _) e2 (Nat.le_trans e3 m1) e4 e5 e6 h5⟩
    rcases h4 with h4 | ⟨g, c, g1, g2, ev, h4⟩
    · exact .inl h4
    · exact .inr ⟨g, c, Nat.le_trans e1 g1, g2, ev, EA_same hs l lo g lo' g g 0 e1 (Nat.le_refl _) e3 (by omega) (by omega) (by omega) h4⟩
theorem EVA.same {w w' : World} {lo hi lo' hi' : Nat} {F : EF} {v : Value} (h : EVA w lo hi F v) (hlo : lo' ≤ lo) (hhi : hi ≤ hi') (hs : ∀ (a : Addr) v, lo ≤ a.block → a.block < hi → rdF w a = some v → rdF w' a = some v) : EVA w' lo' hi' F v := by
  rcases h with h | ⟨g, c, g1, g2, ev, h⟩
  · exact .inl h
  · exact .inr ⟨g, c, Nat.le_trans hlo g1, Nat.lt_of_lt_of_le g2 hhi, ev, EA_same hs F lo g lo' g g 0 hlo (Nat.le_refl _) (Nat.le_refl _) (by omega) g1 g2 h⟩
theorem EVA.wide {w : World} {lo hi lo' hi' : Nat} {F : EF} {v : Value} (h : EVA w lo hi F v) (hlo : lo' ≤ lo) (hhi : hi ≤ hi') : EVA w lo' hi' F v := h.same hlo hhi fun _ _ _ _ h => h
theorem rdF_wr {b : Nat} {w w' : World} (hw : Wr b w w') {a : Addr} {v : Value} (h : rdF w a = some v) (hne : a.block ≠ b) : rdF w' a = some v := by
  obtain ⟨h1, h2⟩ := rdF_iff.1 h
  refine rdF_iff.2 ⟨?_, wr_keeps hw h2 hne⟩
  have := hw.block a.block (lt_of_cellA h2) hne
  unfold World.frozen? at h1 ⊢
  simp only [this]; exact h1
theorem EVA.wr {b : Nat} {w w' : World} {lo hi : Nat} {F : EF} {v : Value} (h : EVA w lo hi F v) (hw : Wr b w w') (hb : b < lo) : EVA w' lo hi F v := h.same (Nat.le_refl _) (Nat.le_refl _) fun a v h1 h2 hc => rdF_wr hw hc (by omega)
theorem EVA.later {w w' : World} {lo hi : Nat} {F : EF} {v : Value} (h : EVA w lo hi F v) (hb : Below w.heap.size w w') : EVA w' lo hi F v := h.same (Nat.le_refl _) (Nat.le_refl _) fun a v _ _ hc => keepsF hb hc
theorem rdF_sets {w : World} {n o : Nat} {vs : List Value} {a : Addr} {v : Value} (h : rdF w a = some v) (hne : a.block ≠ n) : rdF (w.setCells n o vs) a = some v := by
  have hW : Wr n w (w.setCells n o vs) := ⟨(below_sets (g := n) (B := n) vs o (Below.refl _ w) (Nat.le_refl _)).os, (below_sets (g := n) (B := n) vs o (Below.refl _ w) (Nat.le_refl _)).tape, (below_sets (g := n) (B := n) vs o (Below.refl _ w) (Nat.le_refl _)).output, by rw [size_sets]; exact Nat.le_refl _, fun k hk hne => World.heap_setCells_other w n o vs hk hne⟩
  exact rdF_wr hW h hne
theorem EVA.sets {w : World} {lo hi n o : Nat} {vs : List Value} {F : EF} {v : Value} (h : EVA w lo hi F v) (hn : n < lo ∨ hi ≤ n) : EVA (w.setCells n o vs) lo hi F v := h.same (Nat.le_refl _) (Nat.le_refl _) fun a v h1 h2 hc => rdF_sets hc (by omega)
theorem EVA.nil (w : World) (lo hi : Nat) (a : Option Addr) (c : Nat) : EVA w lo hi .nil (.slice a 0 c) := .inl ⟨rfl, a, c, rfl⟩
theorem EVA.shape {w : World} {lo hi : Nat} {F : EF} {v : Value} (h : EVA w lo hi F v) : ∃ a c, v = .slice a (elen F) c := by
  rcases h with ⟨rfl, a, c, rfl⟩ | ⟨g, c, _, _, rfl, _⟩
  · exact ⟨a, c, rfl⟩
  · exact ⟨_, c, rfl⟩
theorem EVA.isOne {w : World} {lo hi : Nat} {F : EF} {v : Value} (h : EVA w lo hi F v) : v.oneCell' = true := by obtain ⟨a, c, rfl⟩ := h.shape; rfl
theorem EInF_row {w : World} {lo : Nat} : ∀ (F : EF) (m hi b o : Nat), lo ≤ m → lo ≤ b → EA w F m hi b o → EInF w lo F b o
  | .nil, _, _, _, _, _, _, _ => trivial
  | .node _ _ h l r, m, hi, b, o, hm, hb, ⟨h0, h1, h2, v, mid, h3, m1, m2, h4, h5⟩ => by
    refine ⟨⟨h0, h1, h2, v, h3, ?_⟩, EInF_row r mid hi b (o + 4) (Nat.le_trans hm m1) hb h5⟩
    rcases h4 with ⟨rfl, a, c, rfl⟩ | ⟨g, c, g1, g2, rfl, h4⟩
    · exact ⟨lo, 0, a, c, rfl, .inr rfl, Nat.le_refl _, trivial⟩
    · exact ⟨g, 0, _, c, rfl, .inl rfl, Nat.le_trans hm g1, EInF_row l m g g 0 hm (Nat.le_trans hm g1) h4⟩
theorem EA_in {w : World} (F : EF) (lo hi b o : Nat) (hb : lo ≤ b) (h : EA w F lo hi b o) : EInF w lo F b o := EInF_row F lo hi b o (Nat.le_refl _) hb h
theorem EVA.evf {w : World} {lo hi : Nat} {F : EF} {v : Value} (h : EVA w lo hi F v) : EVF w lo F v := by
  rcases h with ⟨rfl, a, c, rfl⟩ | ⟨g, c, g1, g2, rfl, h⟩
  · exact EVF.nil _ _ _ _
  · exact ⟨g, 0, _, c, rfl, .inl rfl, g1, EA_in F lo g g 0 g1 h⟩
theorem EInF_ev {w : World} {lo : Nat} : ∀ (F : EF) (b o : Nat), EInF w lo F b o → EIn w lo F b o
  | .nil, _, _, _ => trivial
  | .node _ _ h l r, b, o, ⟨⟨h0, h1, h2, v, h3, b', o', a', c', e1, e2, e3, h4⟩, h5⟩ => ⟨⟨(rdF_iff.1 h0).2, (rdF_iff.1 h1).2, (rdF_iff.1 h2).2, v, (rdF_iff.1 h3).2, b', o', a', c', e1, e2, e3, EInF_ev l b' o' h4⟩, EInF_ev r b (o + 4) h5⟩
theorem EVA.ev {w : World} {lo hi : Nat} {F : EF} {v : Value} (h : EVA w lo hi F v) : EV w lo F v := by
  obtain ⟨b, o, a, c, h1, h2, h3, h4⟩ := h.evf
  exact ⟨b, o, a, c, h1, h2, h3, EInF_ev F b o h4⟩
theorem EVA.sub {w : World} {lo mid : Nat} {F : EF} {v : Value} (h : EVA w lo mid F v) : (F = .nil ∧ ∃ a c, v = .slice a 0 c) ∨ ∃ g c, lo ≤ g ∧ g < mid ∧ v = .slice (some ⟨g, 0, Option.none⟩) (elen F) c ∧ EA w F lo g g 0 := h
theorem EVA.two {w : World} {lo m hi g c : Nat} {x y : X} {u v : Value} (hx : EVA w lo m x.l u) (hy : EVA w m g y.l v) (h1 : lo ≤ m) (h2 : m ≤ g) (h3 : g < hi) (hr : rgF w g 0 (xcells x u ++ xcells y v)) : EVA w lo hi (.node 0 0 x.h x.l (.node 0 0 y.h y.l .nil)) (.slice (some ⟨g, 0, Option.none⟩) 2 c) :=
  .inr ⟨g, c, Nat.le_trans h1 h2, h3, rfl, hr 0 _ rfl, hr 1 _ rfl, hr 2 _ rfl, u, m, hr 3 _ rfl, h1, h2, hx, hr 4 _ rfl, hr 5 _ rfl, hr 6 _ rfl, v, g, hr 7 _ rfl, h2, Nat.le_refl _, hy, trivial⟩
theorem EVA.one {w : World} {lo hi g c : Nat} {x : X} {u : Value} (hx : EVA w lo g x.l u) (h1 : lo ≤ g) (h3 : g < hi) (hr : rgF w g 0 (xcells x u)) : EVA w lo hi (.node 0 0 x.h x.l .nil) (.slice (some ⟨g, 0, Option.none⟩) 1 c) :=
  .inr ⟨g, c, h1, h3, rfl, hr 0 _ rfl, hr 1 _ rfl, hr 2 _ rfl, u, g, hr 3 _ rfl, h1, Nat.le_refl _, hx, trivial⟩
/-- What the landed reader's functions leave: what is read, or a panic. -/
def PostI (b : Nat) (v : Value) (ts : List T) (res : Rest) (p : Nat) (w : World) (e : Ending) (w' : World) : Prop :=
  Wr b w w' ∧ ((∃ x u p', res = some (x, ts.drop p') ∧ e = .returned (.agg (xcells x u).toArray) ∧ p ≤ p' ∧ RdI b v ts p' w' ∧ EVA w' w.heap.size w'.heap.size x.l u) ∨ (res = none ∧ e = .panicked unreadC))
theorem eat_takes {s : List UInt8} {ts : List T} {p : Nat} {R : Bool} (h : takesR s (ts.drop p) = R) : eat s (ts.drop p) = if R then some (ts.drop (p + 1)) else none := by
  unfold takesR at h
  cases e : eat s (ts.drop p) with
  | none => rw [e] at h; subst h; rfl
  | some l => rw [e] at h; subst h; rw [(eat_drop e).1]; rfl
end Go.Proofs.YtkhccpjkajhnpaaGreatDoor
/-
  The landed reader: the contracts of pairExp, choice, named.
-/
namespace Go.Proofs.YtkhccpjkajhnpaaGreatDoor
open Go.RowKit Go.Lib
set_option linter.unusedSimpArgs false
set_option linter.unusedVariables false

/-- A tree that lies so whatever block n holds. -/
def EVAx (n : Nat) (w : World) (lo hi : Nat) (F : EF) (v : Value) : Prop := ∀ W : World, (∀ (a : Addr) u, lo ≤ a.block → a.block < hi → a.block ≠ n → rdF w a = some u → rdF W a = some u) → EVA W lo hi F v
section
variable {n lo hi : Nat} {w w' : World} {F : EF} {v : Value}
theorem EVAx.eva (h : EVAx n w lo hi F v) : EVA w lo hi F v := h w fun _ _ _ _ _ h => h
theorem EVAx.step (h : EVAx n w lo hi F v) (hs : ∀ (a : Addr) u, lo ≤ a.block → a.block < hi → a.block ≠ n → rdF w a = some u → rdF w' a = some u) : EVAx n w' lo hi F v := fun W hW => h W fun a u h1 h2 h3 hc => hW a u h1 h2 h3 (hs a u h1 h2 h3 hc)
theorem EVAx.wr {b : Nat} (h : EVAx n w lo hi F v) (hw : Wr b w w') (hb : b < lo) : EVAx n w' lo hi F v := h.step fun a u h1 _ _ hc => rdF_wr hw hc (by omega)
theorem EVAx.later (h : EVAx n w lo hi F v) (hb : Below w.heap.size w w') : EVAx n w' lo hi F v := h.step fun a u _ _ _ hc => keepsF hb hc
theorem EVAx.sets (h : EVAx n w lo hi F v) (o : Nat) (vs : List Value) : EVAx n (w.setCells n o vs) lo hi F v := h.step fun a u _ _ h3 hc => rdF_sets hc h3
theorem EVAx.of (h : EVA w lo hi F v) (hn : n < lo ∨ hi ≤ n) : EVAx n w lo hi F v := fun W hW => h.same (Nat.le_refl _) (Nat.le_refl _) fun a u h1 h2 hc => hW a u h1 h2 (by omega) hc
theorem EVAx.wide {lo' hi' : Nat} (h : EVAx n w lo hi F v) (hlo : lo' ≤ lo) (hhi : hi ≤ hi') : EVAx n w lo' hi' F v := fun W hW => (h W fun a u h1 h2 h3 hc => hW a u (by omega) (by omega) h3 hc).wide hlo hhi
end
theorem EVAx.two {n : Nat} {w : World} {lo m hi g c : Nat} {x y : X} {u v : Value} (hx : EVAx n w lo m x.l u) (hy : EVAx n w m g y.l v) (h1 : lo ≤ m) (h2 : m ≤ g) (h3 : g < hi) (hn : g ≠ n) (hr : rgF w g 0 (xcells x u ++ xcells y v)) : EVAx n w lo hi (.node 0 0 x.h x.l (.node 0 0 y.h y.l .nil)) (.slice (some ⟨g, 0, Option.none⟩) 2 c) := fun W hW =>
  EVA.two (hx W fun a u e1 e2 e3 hc => hW a u e1 (by omega) e3 hc) (hy W fun a u e1 e2 e3 hc => hW a u (by omega) (by omega) e3 hc) h1 h2 h3 (fun j z hj => hW _ _ (show lo ≤ g by omega) h3 hn (hr j z hj))
theorem last_there (w : World) (cs : List Value) (t : TypeId) (n : Nat) (hn : w.heap.size = n) : (w.alloc (.cells cs.toArray t)).there n 0 cs.length := by
  subst hn
  exact blk_there (arr := cs.toArray) (t := t) (by show (w.heap.push _)[w.heap.size]? = _; simp) (by simp)
set_option maxHeartbeats 1000000 in
set_option maxRecDepth 100000 in
theorem pairExp_x (k : Int) (x y : X) (n lo m : Nat) (w : World) (u v : Value) (hu : EVAx n w lo m x.l u) (hv : EVAx n w m w.heap.size y.l v) (hlo : lo ≤ m) (hm : m ≤ w.heap.size) (hn : n < w.heap.size) : Calls Tryz.prog 159 #[.int .i64 k, .agg (xcells x u).toArray, .agg (xcells y v).toArray] w fun e w' => ∃ z, e = .returned (.agg (xcells (twoX k x y) z).toArray) ∧ EVAx n w' lo w'.heap.size (twoX k x y).l z ∧ Below w.heap.size w w' := by
  show Calls Tryz.prog 159 #[.int .i64 k, .agg #[.int .i64 x.h.k, .int .i64 x.h.n, .string x.h.s, u], .agg #[.int .i64 y.h.k, .int .i64 y.h.n, .string y.h.s, v]] w _
  have Hu := Lib.hid hu
  have Hv := Lib.hid hv
  obtain ⟨ua, uc, rfl⟩ := hu.eva.shape
  obtain ⟨va, vc, rfl⟩ := hv.eva.shape
  clear hu hv
  go_enter Tryz.func159, Tryz.ntmps159
  go_wp2
  have hb := (((alloc_below w (.cells #[.int .i64 x.h.k, .int .i64 x.h.n, .string x.h.s, .slice ua (elen x.l) uc] 33)).alloc (by simp) (.cells #[.int .i64 y.h.k, .int .i64 y.h.n, .string y.h.s, .slice va (elen y.l) vc] 33)).alloc (by simp; omega) (.cells #[.int .i64 k, .int .i64 0, .string ⟨#[]⟩, .slice (some ⟨w.heap.size + 1 + 1 + 1, 0, Option.none⟩) 2 2] 33)).alloc (by simp; omega) (.cells (xcells x (.slice ua (elen x.l) uc) ++ xcells y (.slice va (elen y.l) vc)).toArray 33)
  refine bodyPost_ret (v := .agg #[.int .i64 k, .int .i64 0, .string ⟨#[]⟩, .slice (some ⟨w.heap.size + 1 + 1 + 1, 0, Option.none⟩) 2 2]) (by simp [results, Tryz.results159, go_sem]) rfl ⟨_, rfl, EVAx.two (Hu.out.later hb) ((Hv.out.later hb).wide (Nat.le_refl _) (by omega)) hlo (by omega) (by simp) (by omega) (rgF_of (last_range _ _ _ _ (by simp)) (last_there _ _ _ _ (by simp)) (Nat.le_refl _)), hb⟩
/-- What sum says, so many sums within. -/
def SumI (b : Nat) (v : Value) (ts : List T) (d : Nat) (around : Int) : Prop := ∀ (p : Nat) (w : World), RdI b v ts p w → Calls Tryz.prog 109 #[.pointer (some ⟨b, 0, none⟩), .int .i64 around] w (PostI b v ts (sumP d (ts.drop p)) p w)
/-- The end: the result is laid into its block. -/
theorem PostI.close {b : Nat} {v : Value} {ts : List T} {res : Rest} {p p' : Nat} {w w2 W : World} {x : X} {u : Value} {lo : Nat} (hb : b < w.heap.size) (th : w2.there w.heap.size 0 4) (he : EVA w2 lo w2.heap.size x.l u) (hlo : w.heap.size < lo) (hr : RdI b v ts p' w2) (hw : Wr b w w2) (hle : p ≤ p') (hres : res = some (x, ts.drop p')) (hW : w2.setCells w.heap.size 0 (xcells x u) = W) :
    PostI b v ts res p w (.returned (.agg (xcells x u).toArray)) W ∧ W.rangeAt w.heap.size 0 (xcells x u) := by
  refine ⟨⟨by rw [← hW]; exact hw.setsOut (Nat.le_refl _), .inl ⟨x, u, p', hres, rfl, hle, by rw [← hW]; exact hr.out hb, ?_⟩⟩, by rw [← hW]; exact World.rangeAt_setCells_same _ _ _ _ th⟩
  rw [← hW, size_sets]
  exact (he.sets (.inl hlo)).wide (by omega) (Nat.le_refl _)
set_option maxHeartbeats 2000000 in
set_option maxRecDepth 100000 in
theorem choice_of (b : Nat) (v : Value) (ts : List T) (d : Nat) (around : Int) (ha : 0 ≤ around) (ha2 : around ≤ 30) (ih : SumI b v ts d (around + 1)) (k : Int) (p : Nat) (w : World) (st : RdI b v ts p w) :
    Calls Tryz.prog 224 #[.pointer (some ⟨b, 0, none⟩), .int .i64 k, .int .i64 around] w (PostI b v ts (choiceP (sumP d) k (ts.drop p)) p w) := by
  have Hih := Lib.hid ih
  have hbN := st.lt
  have b0 := alloc_below w (.cells zero4 33)
  have S0 := Lib.hid (st.later b0)
  have T0 := Lib.hid (newthere4 w 33)
  have W0 := Lib.hid (Wr.of_below (b := b) b0)
  have Z0 := Lib.hid (show (w.alloc (.cells zero4 33)).heap.size = w.heap.size + 1 from World.size_alloc _ _)
  have hw : IntKind.i64.wrap (around + 1) = around + 1 := wrap_small _ (by omega) (by omega)
  obtain ⟨res, Hres⟩ : ∃ r, Hid (choiceP (sumP d) k (ts.drop p) = r) := ⟨_, rfl⟩
  rw [Hres.out]
  clear ih st b0
  go_enter Tryz.func224, Tryz.ntmps224
  obtain ⟨R1, HR1⟩ : ∃ R, Hid (takesR [40] (ts.drop p) = R) := ⟨_, rfl⟩
  have E1 := Lib.hid (eat_takes HR1.out)
  go_wp2_with fail
  refine (must_is b v ts p [40] R1 HR1.out _ S0.out).mono ?_
  rintro e m1 ⟨h1, ⟨rfl, rfl, s1⟩ | ⟨rfl, rfl⟩⟩
  rotate_left
  · have HN := Lib.hid (show res = none by rw [← Hres.out]; unfold choiceP; rw [E1.out]; rfl)
    have HW := Lib.hid (W0.out.trans h1)
    clear h1
    go_wp2
    exact ⟨rfl, HW.out, .inr ⟨HN.out, rfl⟩⟩
  have S1 := Lib.hid s1
  have W1 := Lib.hid (W0.out.trans h1)
  have T1 := Lib.hid (there_wr T0.out h1 (by omega))
  have Z1 : Hid (w.heap.size + 1 ≤ m1.heap.size) := Lib.hid (by rw [← Z0.out]; exact h1.size)
  clear s1 h1 S0 W0 T0 Z0 HR1
  go_wp2_with fail
  refine (Hih.out (p + 1) _ S1.out).mono ?_
  rintro e m2 ⟨h2, ⟨x2, u2, p2, r2, rfl, l2, s2, e2⟩ | ⟨r2, rfl⟩⟩
  rotate_left
  · have HN := Lib.hid (show res = none by rw [← Hres.out]; unfold choiceP; rw [E1.out]; simp only [if_true]; rw [r2])
    have HW := Lib.hid (W1.out.trans h2)
    clear h2 r2
    go_wp2
    exact ⟨rfl, HW.out, .inr ⟨HN.out, rfl⟩⟩
  have o2 := oneX x2 u2 e2.isOne
  have S2 := Lib.hid s2
  have W2 := Lib.hid (W1.out.trans h2)
  have T2 := Lib.hid (there_wr T1.out h2 (by omega))
  have Z2 := Lib.hid h2.size
  have V2 := Lib.hid e2
  have L2 := Lib.hid l2
  have R2 := Lib.hid r2
  clear s2 h2 e2 l2 r2 S1 W1 T1
  go_wp2_with ((refine store_abs rfl 33 _ _ rfl m2.heap.size 0 (xcells x2 u2).toArray rfl rfl (newthere4 m2 _) sizeIE2 o2 ?_; intro W hW; have HW2 := Lib.hid (newblk4 x2 u2 hW); clear hW))
  have S3 := Lib.hid (S2.out.later HW2.out.2)
  have W3 := Lib.hid (W2.out.trans (.of_below HW2.out.2))
  have T3 := Lib.hid (there_later T2.out HW2.out.2)
  have V3 := Lib.hid (V2.out.later HW2.out.2)
  have Z3 : Hid (m2.heap.size < W.heap.size) := Lib.hid (lt_of_cellA (HW2.out.1 0 _ rfl))
  have X3 := Lib.hid HW2.out.1
  obtain ⟨n2, hn2⟩ : ∃ n, m2.heap.size = n := ⟨_, rfl⟩
  rw [hn2] at V3 Z2 Z3 X3 ⊢
  clear S2 W2 T2 V2 HW2 hn2
  obtain ⟨RC, HRC⟩ : ∃ R, Hid (takesR [44] (ts.drop p2) = R) := ⟨_, rfl⟩
  have EC := Lib.hid (eat_takes HRC.out)
  refine (must_is b v ts p2 [44] RC HRC.out _ S3.out).mono ?_
  rintro e m4 ⟨h4, ⟨rfl, rfl, s4⟩ | ⟨rfl, rfl⟩⟩
  rotate_left
  · have HN := Lib.hid (show res = none by rw [← Hres.out]; unfold choiceP; rw [E1.out]; simp only [if_true]; rw [R2.out]; simp only; rw [EC.out]; rfl)
    have HW := Lib.hid (W3.out.trans h4)
    clear h4
    go_wp2
    exact ⟨rfl, HW.out, .inr ⟨HN.out, rfl⟩⟩
  have S4 := Lib.hid s4
  have W4 := Lib.hid (W3.out.trans h4)
  have T4 := Lib.hid (there_wr T3.out h4 (by omega))
  have V4 := Lib.hid (V3.out.wr h4 (by have := Z1.out; omega))
  have Z4 : Hid (n2 < m4.heap.size) := Lib.hid (Nat.lt_of_lt_of_le Z3.out h4.size)
  have X4 := Lib.hid (range_wr5 X3.out h4 (by have := Z1.out; have := Z2.out; omega))
  clear s4 h4 S3 W3 T3 V3 Z3 X3 HRC
  go_wp2_with fail
  refine (Hih.out (p2 + 1) _ S4.out).mono ?_
  rintro e m5 ⟨h5, ⟨x5, u5, p5, r5, rfl, l5, s5, e5⟩ | ⟨r5, rfl⟩⟩
  rotate_left
  · have HN := Lib.hid (show res = none by rw [← Hres.out]; unfold choiceP; rw [E1.out]; simp only [if_true]; rw [R2.out]; simp only; rw [EC.out]; simp only [if_true]; rw [r5])
    have HW := Lib.hid (W4.out.trans h5)
    clear h5 r5
    go_wp2
    exact ⟨rfl, HW.out, .inr ⟨HN.out, rfl⟩⟩
  have o5 := oneX x5 u5 e5.isOne
  have S5 := Lib.hid s5
  have W5 := Lib.hid (W4.out.trans h5)
  have T5 := Lib.hid (there_wr T4.out h5 (by omega))
  have V5 := Lib.hid (V4.out.wr h5 (by have := Z1.out; omega))
  have Z5 := Lib.hid h5.size
  have X5 := Lib.hid (range_wr5 X4.out h5 (by have := Z1.out; have := Z2.out; omega))
  have Y5 := Lib.hid e5
  have L5 := Lib.hid l5
  have R5 := Lib.hid r5
  clear s5 h5 e5 l5 r5 S4 W4 T4 V4 X4
  go_wp2_with ((refine store_abs rfl 33 _ _ rfl m5.heap.size 0 (xcells x5 u5).toArray rfl rfl (newthere4 m5 _) sizeIE2 o5 ?_; intro W hW; have HW5 := Lib.hid (newblk4 x5 u5 hW); clear hW))
  have S6 := Lib.hid (S5.out.later HW5.out.2)
  have W6 := Lib.hid (W5.out.trans (.of_below HW5.out.2))
  have T6 := Lib.hid (there_later T5.out HW5.out.2)
  have V6 := Lib.hid (V5.out.later HW5.out.2)
  have Y6 := Lib.hid (Y5.out.later HW5.out.2)
  have X6 := Lib.hid (rangeAt_later X5.out HW5.out.2)
  have Z6 : Hid (m5.heap.size < W.heap.size) := Lib.hid (lt_of_cellA (HW5.out.1 0 _ rfl))
  have M6 := Lib.hid HW5.out.1
  obtain ⟨n5, hn5⟩ : ∃ n, m5.heap.size = n := ⟨_, rfl⟩
  rw [hn5] at Y6 Z5 Z6 M6 ⊢
  clear S5 W5 T5 V5 X5 Y5 HW5 hn5
  obtain ⟨RD, HRD⟩ : ∃ R, Hid (takesR [41] (ts.drop p5) = R) := ⟨_, rfl⟩
  have ED := Lib.hid (eat_takes HRD.out)
  refine (must_is b v ts p5 [41] RD HRD.out _ S6.out).mono ?_
  rintro e m7 ⟨h7, ⟨rfl, rfl, s7⟩ | ⟨rfl, rfl⟩⟩
  rotate_left
  · have HN := Lib.hid (show res = none by rw [← Hres.out]; unfold choiceP; rw [E1.out]; simp only [if_true]; rw [R2.out]; simp only; rw [EC.out]; simp only [if_true]; rw [R5.out]; simp only; rw [ED.out]; rfl)
    have HW := Lib.hid (W6.out.trans h7)
    clear h7
    go_wp2
    exact ⟨rfl, HW.out, .inr ⟨HN.out, rfl⟩⟩
  have HN : Hid (res = some (twoX k x2 x5, ts.drop (p5 + 1))) := Lib.hid (by rw [← Hres.out]; unfold choiceP; rw [E1.out]; simp only [if_true]; rw [R2.out]; simp only; rw [EC.out]; simp only [if_true]; rw [R5.out]; simp only; rw [ED.out]; rfl)
  have S7 := Lib.hid s7
  have W7 := Lib.hid (W6.out.trans h7)
  have T7 := Lib.hid (there_wr T6.out h7 (by omega))
  have V7 : Hid (EVAx b m7 m1.heap.size m4.heap.size x2.l u2) := Lib.hid ((EVAx.of (V6.out.wr h7 (by have := Z1.out; omega)) (.inl (by have := Z1.out; omega))).wide (Nat.le_refl _) (by have := Z4.out; omega))
  have Y7 : Hid (EVAx b m7 m4.heap.size m7.heap.size x5.l u5) := Lib.hid ((EVAx.of (Y6.out.wr h7 (by have := Z1.out; have := Z2.out; have := Z4.out; omega)) (.inl (by have := Z1.out; have := Z2.out; have := Z4.out; omega))).wide (Nat.le_refl _) (by have := Z6.out; have := h7.size; omega))
  have rx := range_wr5 X6.out h7 (by have := Z1.out; have := Z2.out; omega)
  have ry := range_wr5 M6.out h7 (by have := Z1.out; have := Z2.out; have := Z4.out; have := Z5.out; omega)
  have Z7 : Hid (m1.heap.size ≤ m4.heap.size ∧ m4.heap.size ≤ m7.heap.size ∧ b < m7.heap.size) := Lib.hid (by have := Z1.out; have := Z2.out; have := Z4.out; have := Z5.out; have := Z6.out; have := h7.size; omega)
  have LL : Hid (p ≤ p5 + 1) := Lib.hid (by have := L2.out; have := L5.out; omega)
  clear s7 h7 S6 W6 T6 V6 Y6 X6 M6 HRD R2 R5 E1 EC ED Hres
  go_wp2_with (first | (refine wpList_load_mid rfl 33 _ rfl n2 0 rfl _ _ rx Tryz.underlying33 rfl sizeIE2 ?_) | (refine wpList_load_mid rfl 33 _ rfl n5 0 rfl _ _ ry Tryz.underlying33 rfl sizeIE2 ?_))
  refine (pairExp_x k x2 x5 b m1.heap.size m4.heap.size _ u2 u5 V7.out Y7.out Z7.out.1 Z7.out.2.1 Z7.out.2.2).mono ?_
  rintro e m8 ⟨z, rfl, e8, h8⟩
  have o8 := oneX (twoX k x2 x5) z e8.eva.isOne
  have S8 := Lib.hid (S7.out.later h8)
  have W8 := Lib.hid (W7.out.trans (.of_below h8))
  have T8 := Lib.hid (there_later T7.out h8)
  have V8 := Lib.hid e8.eva
  clear e8 h8 S7 W7 T7 V7 Y7 rx ry
  go_wp2_with (refine store_abs rfl 33 _ _ rfl w.heap.size 0 (xcells (twoX k x2 x5) z).toArray rfl rfl T8.out sizeIE2 o8 ?_; intro W9 hW9)
  have HF := PostI.close (p := p) hbN T8.out V8.out (by have := Z1.out; omega) S8.out W8.out LL.out HN.out hW9
  have hlv := run_loadVar_mid W9 w.heap.size 0 _ _ _ HF.2 Tryz.underlying33 rfl sizeIE2
  refine bodyPost_ret (v := .agg (xcells (twoX k x2 x5) z).toArray) ?_ rfl HF.1
  simp [results, Tryz.results224, asAddr, hlv, Act.put]
  try rfl
end Go.Proofs.YtkhccpjkajhnpaaGreatDoor
