import Derived.Test.YtpinockfakndlaaGreatZp
import Derived.Test.YtpinockfakndlaaGreatP15ofFnEvals
import Derived.Test.YtpinockfakndlaaGreatP16ofFnEvals
import Derived.Test.YtpinockfakndlaaGreatP20ofFnEvals
import Derived.Deep.Cut
import Derived.Test.YtpinockfakndlaaGreatP00ofFnEvals
import Derived.Sort.Walk0
import Derived.Sort.KeysCollected
namespace Go.Proofs.YtpinockfakndlaaGreat
open Go.RowKit Go.Lib
set_option linter.unusedSimpArgs false
set_option linter.unusedVariables false
structure GotS (b : Nat) (v : Value) (ts : List T) (res : RestS) (p : Nat) (w w' : World) (h : SH) (F : SF) (v1 v2 v3 v4 u : Value) (p' : Nat) (bad' : Bool) : Prop where
  hv : HV w' w.heap.size h v1 v2 v3 v4
  sv : SV w' w.heap.size F u
  rd : Rd5 b v ts p' 0 bad' w'
  wr : Wr b w w'
  le : p ≤ p'
  rel : StS5 ts res h F p' bad'
def PostS (b : Nat) (v : Value) (ts : List T) (res : RestS) (p : Nat) (w : World) (e : Ending) (w' : World) : Prop := ∃ (h : SH) (F : SF) (v1 v2 v3 v4 u : Value) (p' : Nat) (bad' : Bool), e = .returned (sagg h v1 v2 v3 v4 u) ∧ GotS b v ts res p w w' h F v1 v2 v3 v4 u p' bad'
def StmC (b : Nat) (v : Value) (ts : List T) (d : Nat) : Prop := ∀ (deep : Int), deep = 5 - (d : Int) → ∀ (p : Nat) (bad : Bool) (w : World), Rd5 b v ts p 0 bad w → Calls Tryz.prog 96 #[.pointer (some ⟨b, 0, none⟩), .int .i64 deep] w (PostS b v ts (resS bad (stmtP d) (ts.drop p)) p w)
theorem Rd5.other {b n : Nat} {v : Value} {ts : List T} {p : Nat} {deep : Int} {bad : Bool} {w : World} (s : Rd5 b v ts p deep bad w) (hn : b < n) (o : Nat) (us : List Value) : Rd5 b v ts p deep bad (w.setCells n o us) := by
  refine ⟨World.rangeAt_setCells_apart s.rg n o us (.inl (by omega)), World.there_setCells s.th n o us, ?_, s.hp, s.hts⟩
  obtain ⟨ao, cap, e, h⟩ := s.row
  refine ⟨ao, cap, e, ?_⟩
  rcases h with h | ⟨g, e2, hg, hc⟩
  · exact .inl h
  · refine .inr ⟨g, e2, hg, fun i t hi => ?_⟩
    obtain ⟨c0, c1, c2⟩ := hc i t hi
    have K : ∀ (k : Nat) (z : Value), w.cell? ⟨g, k, Option.none⟩ = some z → (w.setCells n o us).cell? ⟨g, k, Option.none⟩ = some z := fun k z hz => by
      rw [World.cell?_setCells_out n us o w ⟨g, k, Option.none⟩ (fun e _ => absurd e (by show g ≠ n; omega))]; exact hz
    exact ⟨K _ _ c0, K _ _ c1, K _ _ c2⟩
theorem Rd5.other1 {b n : Nat} {v : Value} {ts : List T} {p : Nat} {deep : Int} {bad : Bool} {w : World} (s : Rd5 b v ts p deep bad w) (hn : b < n) (o : Nat) (u : Value) : Rd5 b v ts p deep bad (w.setCell ⟨n, o, Option.none⟩ u) := s.other hn o [u]
theorem kept_yes {ts : List T} (hG : ∀ t ∈ ts, Good t) {s : List UInt8} (hs : s ∈ keptL) {p : Nat} {bad : Bool} (h : isR bad 3 s (ts.drop p) = true) : bad = false ∧ eat s (ts.drop p) = some (ts.drop (p + 1)) := by
  rw [kept_eat hs bad _ (drop_good hG p)] at h
  simp only [Bool.and_eq_true, Bool.not_eq_true'] at h
  obtain ⟨r, hr⟩ := Option.isSome_iff_exists.1 h.2
  exact ⟨h.1, by rw [hr, (eat_drop hr).1]⟩
theorem kept_no {ts : List T} (hG : ∀ t ∈ ts, Good t) {s : List UInt8} (hs : s ∈ keptL) {p : Nat} {bad : Bool} (h : isR bad 3 s (ts.drop p) = false) (hb : bad = false) : eat s (ts.drop p) = none := by
  rw [kept_eat hs bad _ (drop_good hG p), hb] at h
  simpa using h
theorem mark_yes {ts : List T} (hG : ∀ t ∈ ts, Good t) {c : UInt8} (hc : kind c = 3) {p : Nat} {bad : Bool} (h : isR bad 4 [c] (ts.drop p) = true) : bad = false ∧ eat [c] (ts.drop p) = some (ts.drop (p + 1)) := by
  rw [mark_eat hc bad _ (drop_good hG p)] at h
  simp only [Bool.and_eq_true, Bool.not_eq_true'] at h
  obtain ⟨r, hr⟩ := Option.isSome_iff_exists.1 h.2
  exact ⟨h.1, by rw [hr, (eat_drop hr).1]⟩
theorem mark_no {ts : List T} (hG : ∀ t ∈ ts, Good t) {c : UInt8} (hc : kind c = 3) {p : Nat} {bad : Bool} (h : isR bad 4 [c] (ts.drop p) = false) (hb : bad = false) : eat [c] (ts.drop p) = none := by
  rw [mark_eat hc bad _ (drop_good hG p), hb] at h
  simpa using h
structure Kp5 (b n : Nat) (w w' : World) : Prop where
  os : w'.os = w.os
  tape : w'.tape = w.tape
  output : w'.output = w.output
  size : w.heap.size ≤ w'.heap.size
  block : ∀ k, k < w.heap.size → k ≠ n → k ≠ b → w'.heap[k]? = w.heap[k]?
theorem Kp5.refl (b n : Nat) (w : World) : Kp5 b n w w := ⟨rfl, rfl, rfl, Nat.le_refl _, fun _ _ _ _ => rfl⟩
theorem Kp5.wr {b n : Nat} {w1 w w' : World} (h : Kp5 b n w1 w) (k : Wr b w w') : Kp5 b n w1 w' := ⟨k.os.trans h.os, k.tape.trans h.tape, k.output.trans h.output, Nat.le_trans h.size k.size, fun j h1 h2 h3 => (k.block j (Nat.lt_of_lt_of_le h1 h.size) h3).trans (h.block j h1 h2 h3)⟩
theorem Kp5.wrn {b n : Nat} {w1 w w' : World} (h : Kp5 b n w1 w) (k : Wr n w w') : Kp5 b n w1 w' := ⟨k.os.trans h.os, k.tape.trans h.tape, k.output.trans h.output, Nat.le_trans h.size k.size, fun j h1 h2 h3 => (k.block j (Nat.lt_of_lt_of_le h1 h.size) h2).trans (h.block j h1 h2 h3)⟩
theorem Kp5.below {b n : Nat} {w1 w w' : World} (h : Kp5 b n w1 w) (k : Below w1.heap.size w w') : Kp5 b n w1 w' := ⟨k.os.trans h.os, k.tape.trans h.tape, k.output.trans h.output, Nat.le_trans h.size k.size, fun j h1 h2 h3 => (k.block j h1).trans (h.block j h1 h2 h3)⟩
theorem wr_set (n o : Nat) (u : Value) (w : World) : Wr n w (w.setCell ⟨n, o, Option.none⟩ u) := by
  have e : w.setCell ⟨n, o, Option.none⟩ u = w.setCells n o [u] := rfl
  rw [e]
  refine ⟨?_, ?_, ?_, by rw [size_sets]; exact Nat.le_refl _, fun k hk hne => World.heap_setCells_other w n o [u] hk hne⟩
  · exact (below_sets (g := n) (B := n) [u] o (Below.refl _ w) (Nat.le_refl _)).os
  · exact (below_sets (g := n) (B := n) [u] o (Below.refl _ w) (Nat.le_refl _)).tape
  · exact (below_sets (g := n) (B := n) [u] o (Below.refl _ w) (Nat.le_refl _)).output
structure LoS (b : Nat) (v : Value) (ts : List T) (n : Nat) (h : SH) (v1 v2 v3 v4 : Value) (w1 : World) (P : SF) (xs : List Value) (t : Value) (p1 : Nat) (bad1 : Bool) (wr : World) : Prop where
  rg : wr.rangeAt n 0 (scells h v1 v2 v3 v4 t)
  th : wr.there n 0 19
  rd : Rd5 b v ts p1 0 bad1 wr
  own : wr.ownsRow w1.heap.size 98 19 t (slen P) xs
  row : SRx (gOf t) wr w1.heap.size P xs
  kp : Kp5 b n w1 wr
  le : slen P ≤ p1 + bad1.toNat
  hn : b < n ∧ n < w1.heap.size
section
variable {b : Nat} {v : Value} {ts : List T} {n : Nat} {h : SH} {v1 v2 v3 v4 : Value} {w1 : World} {P : SF} {xs : List Value} {t : Value} {p1 : Nat} {bad1 : Bool} {wr : World}
theorem LoS.turn {w' : World} {p' : Nat} {bad' : Bool} (s : LoS b v ts n h v1 v2 v3 v4 w1 P xs t p1 bad1 wr) (hw : Wr b wr w') (rd : Rd5 b v ts p' 0 bad' w') (hle : slen P ≤ p' + bad'.toNat) : LoS b v ts n h v1 v2 v3 v4 w1 P xs t p' bad' w' :=
  ⟨range_wr5 s.rg hw (by have := s.hn; omega), there_wr s.th hw (by have := s.hn; omega), rd, own_wr s.own hw (by have := s.hn; omega), s.row.step (fun _ _ e => e.wr hw (by have := s.hn; omega)) (fun _ _ e => e.wr hw (by have := s.hn; omega)), s.kp.wr hw, hle, s.hn⟩
theorem LoS.glt (s : LoS b v ts n h v1 v2 v3 v4 w1 P xs t p1 bad1 wr) : gOf t < wr.heap.size := by
  unfold gOf
  cases h : t.ownBlock with
  | none => have := s.hn; have := s.kp.size; simp only [Option.getD_none]; omega
  | some g => exact (s.own.lt g h).2
theorem range_last {w : World} {n : Nat} {h : SH} {v1 v2 v3 v4 t : Value} (r : w.rangeAt n 0 (scells h v1 v2 v3 v4 t)) (t' : Value) : (w.setCell ⟨n, 18, Option.none⟩ t').rangeAt n 0 (scells h v1 v2 v3 v4 t') := by
  intro j z hj
  rw [Nat.zero_add]
  by_cases e : j = 18
  · subst e
    have h1 := r 18 t rfl
    rw [Nat.zero_add] at h1
    have h2 : (scells h v1 v2 v3 v4 t')[18]? = some t' := rfl
    rw [h2] at hj
    injection hj with hj
    subst hj
    exact World.cell?_setCell_same _ _ _ h1
  · rw [World.cell?_setCell_other _ _ _ _ (by intro e1; injection e1 with e1 e2; exact e e2.symm)]
    have hlt : j < 19 := (List.getElem?_eq_some_iff.1 hj).1
    have h3 : (scells h v1 v2 v3 v4 t)[j]? = some z := by
      rw [← hj]
      have h4 : ∀ u : Value, (scells h v1 v2 v3 v4 u) = ((.int .i64 h.k :: .string h.s :: (xC h.x1 v1 ++ (xC h.x2 v2 ++ (xC h.x3 v3 ++ xC h.x4 v4)))) : List Value) ++ [u] := fun u => by simp [scells, List.append_assoc]
      rw [h4, h4, List.getElem?_append_left (by simp [xC]; omega), List.getElem?_append_left (by simp [xC]; omega)]
    have := r j z h3
    rwa [Nat.zero_add] at this
theorem LoS.next {wz w6 : World} {g c : Nat} {h' : SH} {l' : SF} {y1 y2 y3 y4 y5 : Value} (s : LoS b v ts n h v1 v2 v3 v4 w1 P xs t p1 bad1 wr) (hg0 : gOf t < wz.heap.size) (hwz : w1.heap.size ≤ wz.heap.size) (he : HV wr wz.heap.size h' y1 y2 y3 y4) (hs : SV wr wz.heap.size l' y5)
    (hown : w6.ownsRow w1.heap.size 98 19 (.slice (some ⟨g, 0, Option.none⟩) (slen P + 1) c) (slen P + 1) (xs ++ scells h' y1 y2 y3 y4 y5)) {o : Obj} (hg : (wr.alloc o).grownBy w6 t.ownBlock) (hat : t.ownBlock = some g ∨ wr.heap.size + 1 ≤ g) (hle : slen P + 1 ≤ p1 + bad1.toNat) :
    LoS b v ts n h v1 v2 v3 v4 w1 (sapp P (.node 0 0 h' l' .nil)) (xs ++ scells h' y1 y2 y3 y4 y5) (.slice (some ⟨g, 0, Option.none⟩) (slen P + 1) c) p1 bad1 (w6.setCell ⟨n, 18, Option.none⟩ (.slice (some ⟨g, 0, Option.none⟩) (slen P + 1) c)) := by
  have hb1 := aB wr o
  have hN1 : w1.heap.size ≤ wr.heap.size := s.kp.size
  have hBel : Below w1.heap.size wr w6 := (hb1.mono hN1).grown hg (by simp; omega) (fun k hk => (s.own.lt k hk).1)
  have hel : slen (sapp P (.node 0 0 h' l' .nil)) = slen P + 1 := by rw [slen_app]; rfl
  have hat' : t.ownBlock = some g ∨ (wr.alloc o).heap.size ≤ g := by rcases hat with e | e; exact .inl e; exact .inr (by simp; exact e)
  have fE : ∀ (F : EF) (z : Value), EVx (gOf t) wr w1.heap.size F z → EVx g w6 w1.heap.size F z := fun F z hz => (hz.later hb1).grow (by have := s.hn; omega) hg hat'
  have fS : ∀ (F : SF) (z : Value), SVx (gOf t) wr w1.heap.size F z → SVx g w6 w1.heap.size F z := fun F z hz => (hz.step (fun a u _ _ hc => keeps hb1 hc)).grow hg hat'
  have hrow : SRx g w6 w1.heap.size (sapp P (.node 0 0 h' l' .nil)) (xs ++ scells h' y1 y2 y3 y4 y5) := (s.row.step fE fS).app ⟨y1, y2, y3, y4, y5, [], by rw [List.append_nil], ⟨fE _ _ (EVx.fresh he.e1 hwz hg0), fE _ _ (EVx.fresh he.e2 hwz hg0), fE _ _ (EVx.fresh he.e3 hwz hg0), fE _ _ (EVx.fresh he.e4 hwz hg0)⟩, fS _ _ (SVx.fresh hs hwz hg0), rfl⟩
  have hW := wr_set n 18 (.slice (some ⟨g, 0, Option.none⟩) (slen P + 1) c) w6
  have hnb := s.hn
  have rg6 : w6.rangeAt n 0 (scells h v1 v2 v3 v4 t) := fun j z hj => by rw [hBel.cell (p := ⟨n, 0 + j, Option.none⟩) hnb.2]; exact s.rg j z hj
  have th6 : w6.there n 0 19 := fun j hj => by
    have e := hBel.block n hnb.2
    have := s.th j hj
    exact ⟨by rw [World.cell?_of_block (show w6.heap[(⟨n, 0 + j, Option.none⟩ : Addr).block]? = _ from e)]; exact this.1, by rw [World.frozen?_of_block (show w6.heap[(⟨n, 0 + j, Option.none⟩ : Addr).block]? = _ from e)]; exact this.2⟩
  have rd6 : Rd5 b v ts p1 0 bad1 w6 := by
    refine ⟨fun j z hj => by rw [hBel.cell (p := ⟨b, 0 + j, Option.none⟩) (show b < w1.heap.size by omega)]; exact s.rd.rg j z hj, fun j hj => ?_, ?_, s.rd.hp, s.rd.hts⟩
    · have e := hBel.block b (show b < w1.heap.size by omega)
      have := s.rd.th j hj
      exact ⟨by rw [World.cell?_of_block (show w6.heap[(⟨b, 0 + j, Option.none⟩ : Addr).block]? = _ from e)]; exact this.1, by rw [World.frozen?_of_block (show w6.heap[(⟨b, 0 + j, Option.none⟩ : Addr).block]? = _ from e)]; exact this.2⟩
    · obtain ⟨ao, cap, e, hh⟩ := s.rd.row
      refine ⟨ao, cap, e, ?_⟩
      rcases hh with hh | ⟨g', e2, hg', hc⟩
      · exact .inl hh
      · have K : ∀ (k : Nat) (z : Value), wr.cell? ⟨g', k, Option.none⟩ = some z → w6.cell? ⟨g', k, Option.none⟩ = some z := fun k z hz => (hBel.cell (p := ⟨g', k, Option.none⟩) (show g' < w1.heap.size by omega)).trans hz
        exact .inr ⟨g', e2, hg', fun i t hi => ⟨K _ _ (hc i t hi).1, K _ _ (hc i t hi).2.1, K _ _ (hc i t hi).2.2⟩⟩
  refine ⟨range_last rg6 _, World.there_setCells th6 n 18 [_], rd6.other1 hnb.1 18 _, ?_, ?_, (s.kp.below hBel).wrn hW, by rw [hel]; exact hle, s.hn⟩
  · rw [hel]; exact own_wr hown hW hnb.2
  · exact hrow.step (fun _ _ e => e.wr hW hnb.2) (fun _ _ e => e.wr hW hnb.2)
theorem LoS.fin {w : World} {N : Nat} (s : LoS b v ts n h v1 v2 v3 v4 w1 P xs t p1 bad1 wr) (V : VarT b w N n h .nil v1 v2 v3 v4 nilS w1) : VarT b w N n h P v1 v2 v3 v4 t wr := by
  have hN := V.hN
  have hNn := V.hn
  have hbN := V.hb
  have hnl := s.hn.2
  refine ⟨s.rg, s.th, V.ex.map fun F z e => e.step fun a u h1 h2 hc => ?_, SVx.fresh (SO.sv ⟨xs, s.own, s.row⟩) (by omega) hnl, ?_, ?_, V.hN, V.hn, V.hb⟩
  · rw [World.cell?_of_block (s.kp.block a.block (lt_of_cellA hc) h2 (by omega))]; exact hc
  · exact ⟨s.kp.os.trans V.wr.os, s.kp.tape.trans V.wr.tape, s.kp.output.trans V.wr.output, Nat.le_trans V.wr.size s.kp.size, fun k hk hne => (s.kp.block k (Nat.lt_of_lt_of_le hk V.wr.size) (by omega) hne).trans (V.wr.block k hk hne)⟩
  · intro j hj
    have e := s.kp.block N (by omega) (by omega) (by omega)
    have := V.thN j hj
    exact ⟨by rw [World.cell?_of_block (show wr.heap[(⟨N, 0 + j, Option.none⟩ : Addr).block]? = _ from e)]; exact this.1, by rw [World.frozen?_of_block (show wr.heap[(⟨N, 0 + j, Option.none⟩ : Addr).block]? = _ from e)]; exact this.2⟩
end
def badOf (b : Nat) (wr : World) : Nat := match wr.cell? ⟨b, 3, Option.none⟩ with
  | some (.bool true) => 0
  | _ => 1
def mesOf (b : Nat) (wr : World) : Nat := 2 * atOf b wr + badOf b wr
theorem mesOf_rd {b : Nat} {v : Value} {ts : List T} {p : Nat} {deep : Int} {bad : Bool} {w : World} (s : Rd5 b v ts p deep bad w) : mesOf b w = 2 * (601 - p) + (!bad).toNat := by
  unfold mesOf
  rw [atOf_rd s]
  unfold badOf
  rw [s.cells.2.2.2]
  cases bad <;> rfl
theorem mes_less {b : Nat} {v v' : Value} {ts : List T} {p p' : Nat} {deep deep' : Int} {bad' : Bool} {w w' : World} (s : Rd5 b v ts p deep false w) (s' : Rd5 b v' ts p' deep' bad' w') (hle : p ≤ p') (hlt : bad' = false → p < p') : mesOf b w' < mesOf b w := by
  rw [mesOf_rd s, mesOf_rd s']
  have h1 := s.hp
  have h2 := s.hts
  have h3 := s'.hp
  cases bad' with
  | true => simp; omega
  | false => have := hlt rfl; simp; omega
set_option maxHeartbeats 8000000 in
set_option maxRecDepth 100000 in
theorem l5Stmt_of (b : Nat) (v : Value) (ts : List T) (hG : ∀ t ∈ ts, Good t) (d : Nat) (deep : Int) (hdd : deep = 5 - (d : Int)) (hd5 : d ≤ 5) (ih : ∀ d0, d = d0 + 1 → StmC b v ts d0) (p : Nat) (bad : Bool) (w : World) (st : Rd5 b v ts p 0 bad w) :
    Calls Tryz.prog 96 #[.pointer (some ⟨b, 0, none⟩), .int .i64 deep] w (PostS b v ts (resS bad (stmtP d) (ts.drop p)) p w) := by
  have Hih := hid ih
  have hbN := st.lt
  have HSU : Hid (∀ (p : Nat) (bad : Bool) (w : World), Rd5 b v ts p 0 bad w → Calls Tryz.prog 135 #[.pointer (some ⟨b, 0, none⟩)] w (PostE b v ts 0 (resB bad (sumP 30) (ts.drop p)) p w)) := l5Sum_all b v ts hG 30 (Nat.le_refl _) 0 (by omega)
  have H6 : Hid (∀ t ∈ ts, t.s.length ≤ 6) := fun t ht => good_len5 (hG t ht)
  have b0 := aB w (.cells zero19 98)
  have T0 := hid (newthere w 98)
  have B0 := hid b0
  have X0 := hid (st.later b0)
  have HDD := hid hdd
  clear ih st b0 hdd
  go_enter Tryz.func96, Tryz.ntmps96
  have hsz : (w.alloc (.cells zero19 98)).heap.size = w.heap.size + 1 := World.size_alloc _ _
  cases d with
  | zero =>
    obtain rfl : deep = 5 := by have := HDD.out; omega
    go_wp2_with (first | (refine sA rfl 98 _ _ rfl (w.heap.size + 1) 0 #[.int .i64 0, .string ⟨#[]⟩, .int .i64 0, .int .i64 0, .string ⟨#[]⟩, .slice Option.none 0 0, .int .i64 0, .int .i64 0, .string ⟨#[]⟩, .slice Option.none 0 0, .int .i64 0, .int .i64 0, .string ⟨#[]⟩, .slice Option.none 0 0, .int .i64 0, .int .i64 0, .string ⟨#[]⟩, .slice Option.none 0 0, .slice Option.none 0 0] rfl rfl ?htpz sizeIS ?hopz ?_; exact (by have h := newthere (w.alloc (.cells zero19 98)) 98; rw [hsz] at h; exact h); exact (oneZ5 0); intro W hW; have hW2 : ((w.alloc (.cells zero19 98)).alloc (.cells zero19 98)).setCells (w.alloc (.cells zero19 98)).heap.size 0 (scells (zeroS 0) nilS nilS nilS nilS nilS) = W := (by rw [hsz]; exact hW); have VA := hid (VarT.start (k := 0) rfl hbN (.of_below B0.out) T0.out hW2); have SA := hid (X0.out.later (newblkS (zeroS 0) nilS nilS nilS nilS nilS hW2).2); rw [hsz] at VA; clear hW hW2; have q3 := SA.out.cells.2.2.2; have q3f := SA.out.free 3 (by omega); have V1 := hid (VA.out.step (SA.out.wset 3 (.bool true))); have S1 := hid (SA.out.setBad true); clear VA SA) | (refine wpList_load_mid rfl 98 _ rfl (w.heap.size + 1) 0 rfl _ _ V1.out.rg Tryz.underlying98 rfl sizeIS ?_) | (refine sA rfl 98 _ _ rfl _ _ _ rfl rfl ?hte1 sizeIS ?hoe1 ?_; exact V1.out.thN; exact (oneS (zeroS 0) nilS nilS nilS nilS nilS V1.out.ex.e1.ev.isOne V1.out.ex.e2.ev.isOne V1.out.ex.e3.ev.isOne V1.out.ex.e4.ev.isOne V1.out.sx.sv.isOne); intro WE hW; have HC := hid (V1.out.close hW); have SE := hid (S1.out.other (n := w.heap.size) hbN 0 (scells (zeroS 0) nilS nilS nilS nilS nilS)); rw [show _ = WE from hW] at SE; clear hW))
    obtain ⟨rg, q1, q2, _, q4⟩ := HC.out
    have hlv := run_loadVar_mid WE w.heap.size 0 _ _ _ rg Tryz.underlying98 rfl sizeIS
    refine bodyPost_ret (v := .agg (scells (zeroS 0) nilS nilS nilS nilS nilS).toArray) ?_ rfl ⟨(zeroS 0), .nil, nilS, nilS, nilS, nilS, nilS, _, _, rfl, q1, q2, SE.out, q4, Nat.le_refl _, by cases bad <;> rfl⟩
    simp [results, Tryz.results96, asAddr, hlv, Act.put]
    try rfl
  | succ d0 =>
    have hd4 : ¬ (4 : Int) < deep := by have := HDD.out; omega
    have hd3 : (-1 : Int) ≤ deep := by have := HDD.out; omega
    go_wp2_with (refine sA rfl 98 _ _ rfl (w.heap.size + 1) 0 #[.int .i64 0, .string ⟨#[]⟩, .int .i64 0, .int .i64 0, .string ⟨#[]⟩, .slice Option.none 0 0, .int .i64 0, .int .i64 0, .string ⟨#[]⟩, .slice Option.none 0 0, .int .i64 0, .int .i64 0, .string ⟨#[]⟩, .slice Option.none 0 0, .int .i64 0, .int .i64 0, .string ⟨#[]⟩, .slice Option.none 0 0, .slice Option.none 0 0] rfl rfl ?htps sizeIS ?hops ?_; exact (by have h := newthere (w.alloc (.cells zero19 98)) 98; rw [hsz] at h; exact h); exact (oneZ5 0); intro W hW; have hW2 : ((w.alloc (.cells zero19 98)).alloc (.cells zero19 98)).setCells (w.alloc (.cells zero19 98)).heap.size 0 (scells (zeroS 0) nilS nilS nilS nilS nilS) = W := (by rw [hsz]; exact hW); have VA := hid (VarT.start (k := 0) rfl hbN (.of_below B0.out) T0.out hW2); have SA := hid (X0.out.later (newblkS (zeroS 0) nilS nilS nilS nilS nilS hW2).2); rw [hsz] at VA; clear hW hW2)
    clear hsz B0 T0 X0
    obtain ⟨w1, hw1⟩ : ∃ z, W = z := ⟨_, rfl⟩
    rw [hw1] at VA SA ⊢
    clear hw1 W
    go_wp2_with fail
    obtain ⟨RP, HRP⟩ : ∃ R, Hid (isR bad 3 [112, 114, 105, 110, 116] (ts.drop p) = R) := ⟨_, rfl⟩
    refine (l5Kept_is b v ts p 0 bad [112, 114, 105, 110, 116] RP HRP.out _ SA.out).mono ?_
    rintro e m1 ⟨rfl, s1, h1⟩
    have VB := hid (VA.out.step h1)
    cases RP with
    | true =>
      obtain ⟨rfl, hpe⟩ := kept_yes hG (by decide) HRP.out
      have SB : Hid (Rd5 b v ts (p + 1) 0 false m1) := s1
      have EQ : Hid (resS false (stmtP (d0 + 1)) (ts.drop p) = (from5 false (ts.drop (p + 1))).bind printP) := by
        show stmtP (d0 + 1) (ts.drop p) = printP _
        rw [stmtP, hpe]
      have GB := hid (St5.start ts (p + 1) false)
      clear s1 h1 VA SA HRP hpe
      obtain ⟨⟨c2, f2⟩, _, _⟩ := VB.out.free
      have V2 := hid (VB.out.setK 4)
      have S2 := hid (SB.out.other1 (n := w.heap.size + 1) (by have := VB.out.hn; have := VB.out.hb; omega) 0 (.int .i64 4))
      clear VB SB
      go_wp2_with fail
      refine (HSU.out (p + 1) false _ S2.out).mono ?_
      rintro e n3 ⟨x3, u3, p3, b3, rfl, g3⟩
      have o3 := oneX x3 u3 g3.ev.isOne
      have T3 := hid (V2.out.step g3.wr)
      have E3 := hid (V2.out.evx g3.ev)
      have X3 := hid g3.rd
      have L3 := hid g3.le
      have G3 := hid (GB.out.sub g3.rel)
      clear g3 V2 S2
      go_wp2_with (refine sA rfl 43 _ _ rfl (w.heap.size + 1) 6 (xC x3 u3).toArray rfl rfl (T3.out.part 6 (by omega)) sizeIE2 o3 ?_; intro W hW; have V3 : Hid (VarT b w w.heap.size (w.heap.size + 1) { { (zeroS 0) with k := 4 } with x2 := x3 } .nil nilS u3 nilS nilS nilS W) := hid (by rw [← hW]; exact T3.out.set2 E3.out); have S3 : Hid (Rd5 b v ts p3 0 b3 W) := hid (by rw [← hW]; exact X3.out.other (by have := T3.out.hn; have := T3.out.hb; omega) _ _); clear hW)
      obtain ⟨w3, hw3⟩ : ∃ z, W = z := ⟨_, rfl⟩
      rw [hw3] at V3 S3 ⊢
      clear hw3 W T3 E3 X3
      have H3 := hid G3.out.st
      obtain ⟨R4, HR4⟩ : ∃ R, Hid (isR b3 4 [59] (ts.drop p3) = R) := ⟨_, rfl⟩
      go_wp2_with fail
      refine (l5Mark_is b v ts p3 0 b3 [59] R4 HR4.out _ S3.out).mono ?_
      rintro e m4 ⟨rfl, s4, h4⟩
      go_wp2_with fail
      refine (l5Must_is b v ts (p3 + R4.toNat) 0 b3 R4 _ s4).mono ?_
      rintro e q4 ⟨rfl, s4', h4'⟩
      obtain ⟨p4, Hp4⟩ : ∃ n, Hid (p3 + R4.toNat = n) := ⟨_, rfl⟩
      obtain ⟨b4, Hb4⟩ : ∃ n, Hid ((b3 || !R4) = n) := ⟨_, rfl⟩
      rw [Hp4.out, Hb4.out] at s4'
      have S4 := hid s4'
      have V4 := hid (V3.out.step (h4.trans h4'))
      have L4 : Hid (p3 ≤ p4) := hid (by rw [← Hp4.out]; exact le_toNat _ _)
      have G4 := hid (H3.out.mark hG (c := 59) (by decide) HR4.out)
      rw [Hp4.out, Hb4.out] at G4
      clear s4 s4' h4 h4' HR4 Hp4 Hb4 V3 S3
      go_wp2_with (first | (refine wpList_load_mid rfl 98 _ rfl (w.heap.size + 1) 0 rfl _ _ V4.out.rg Tryz.underlying98 rfl sizeIS ?_) | (refine sA rfl 98 _ _ rfl _ _ _ rfl rfl ?hte5 sizeIS ?hoe5 ?_; exact V4.out.thN; exact (oneS { { (zeroS 0) with k := 4 } with x2 := x3 } nilS u3 nilS nilS nilS V4.out.ex.e1.ev.isOne V4.out.ex.e2.ev.isOne V4.out.ex.e3.ev.isOne V4.out.ex.e4.ev.isOne V4.out.sx.sv.isOne); intro WE hW; have HC := hid (V4.out.close hW); have SE := hid (S4.out.other (n := w.heap.size) hbN 0 (scells { { (zeroS 0) with k := 4 } with x2 := x3 } nilS u3 nilS nilS nilS)); rw [show _ = WE from hW] at SE; clear hW))
      obtain ⟨rg, q1, q2, _, q4⟩ := HC.out
      have hlv := run_loadVar_mid WE w.heap.size 0 _ _ _ rg Tryz.underlying98 rfl sizeIS
      refine bodyPost_ret (v := .agg (scells { { (zeroS 0) with k := 4 } with x2 := x3 } nilS u3 nilS nilS nilS).toArray) ?_ rfl ⟨{ { (zeroS 0) with k := 4 } with x2 := x3 }, .nil, nilS, u3, nilS, nilS, nilS, _, _, rfl, q1, q2, SE.out, q4, by have := L3.out; have := L4.out; omega, by rw [EQ.out]; exact print_st (last_st G3.out G4.out)⟩
      simp [results, Tryz.results96, asAddr, hlv, Act.put]
      try rfl
    | false =>
      have SB : Hid (Rd5 b v ts p 0 bad m1) := s1
      have NP : Hid (bad = false → eat [112, 114, 105, 110, 116] (ts.drop p) = none) := fun e => kept_no hG (by decide) HRP.out e
      clear s1 h1 VA SA HRP
      obtain ⟨RF, HRF⟩ : ∃ R, Hid (isR bad 3 [102, 111, 114] (ts.drop p) = R) := ⟨_, rfl⟩
      go_wp2_with fail
      refine (l5Kept_is b v ts p 0 bad [102, 111, 114] RF HRF.out _ SB.out).mono ?_
      rintro e m2 ⟨rfl, s2, h2⟩
      have VC := hid (VB.out.step h2)
      cases RF with
      | true =>
        obtain ⟨rfl, hpe⟩ := kept_yes hG (by decide) HRF.out
        have SC : Hid (Rd5 b v ts (p + 1) 0 false m2) := s2
        have EQ : Hid (resS false (stmtP (d0 + 1)) (ts.drop p) = (from5 false (ts.drop (p + 1))).bind (loopP (stmtP d0))) := by
          show stmtP (d0 + 1) (ts.drop p) = loopP _ _
          rw [stmtP, NP.out rfl, hpe]
        have GC := hid (St5.start ts (p + 1) false)
        clear s2 h2 VB SB HRF hpe NP
        obtain ⟨⟨c6, f6⟩, _, _⟩ := VC.out.free
        have V6 := hid (VC.out.setK 3)
        have S6 := hid (SC.out.other1 (n := w.heap.size + 1) (by have := VC.out.hn; have := VC.out.hb; omega) 0 (.int .i64 3))
        clear VC SC
        obtain ⟨R7, HR7⟩ : ∃ R, Hid (kindR false 1 (ts.drop (p + 1)) = R) := ⟨_, rfl⟩
        go_wp2_with fail
        refine (l5Name_is b v ts (p + 1) 0 false R7 HR7.out _ S6.out).mono ?_
        rintro e m7 ⟨he, s7, h7⟩
        obtain ⟨nm7, rfl, hn7⟩ : ∃ nm, e = .returned (.string nm) ∧ ((R7 = true ∧ ∃ t, ts[(p + 1)]? = some t ∧ nm = bs t.s) ∨ (R7 = false ∧ nm = ⟨#[]⟩)) := by
          rcases he with ⟨h1, t, h2, h3⟩ | ⟨h1, h2⟩
          · exact ⟨_, h3, .inl ⟨h1, t, h2, rfl⟩⟩
          · exact ⟨_, h2, .inr ⟨h1, rfl⟩⟩
        have N7 := hid (GC.out.name HR7.out hn7)
        obtain ⟨p7, Hp7⟩ : ∃ n, Hid ((p + 1) + R7.toNat = n) := ⟨_, rfl⟩
        obtain ⟨b7, Hb7⟩ : ∃ n, Hid ((false || !R7) = n) := ⟨_, rfl⟩
        rw [Hp7.out, Hb7.out] at s7 N7
        have L7 : Hid ((p + 1) ≤ p7) := hid (by rw [← Hp7.out]; exact le_toNat _ _)
        have T7 := hid (V6.out.step h7)
        have V7 := hid (T7.out.setS nm7)
        have S7 := hid (s7.other1 (n := w.heap.size + 1) (by have := V6.out.hn; have := V6.out.hb; omega) 1 (.string nm7))
        have G7 := hid N7.out.st
        obtain ⟨_, ⟨c7, f7⟩, _⟩ := T7.out.free
        clear he hn7 s7 h7 HR7 Hp7 Hb7 V6 S6 T7
        obtain ⟨R8, HR8⟩ : ∃ R, Hid (isR b7 4 [61] (ts.drop p7) = R) := ⟨_, rfl⟩
        go_wp2_with fail
        refine (l5Mark_is b v ts p7 0 b7 [61] R8 HR8.out _ S7.out).mono ?_
        rintro e m8 ⟨rfl, s8, h8⟩
        go_wp2_with fail
        refine (l5Must_is b v ts (p7 + R8.toNat) 0 b7 R8 _ s8).mono ?_
        rintro e q8 ⟨rfl, s8', h8'⟩
        obtain ⟨p8, Hp8⟩ : ∃ n, Hid (p7 + R8.toNat = n) := ⟨_, rfl⟩
        obtain ⟨b8, Hb8⟩ : ∃ n, Hid ((b7 || !R8) = n) := ⟨_, rfl⟩
        rw [Hp8.out, Hb8.out] at s8'
        have S8 := hid s8'
        have V8 := hid (V7.out.step (h8.trans h8'))
        have L8 : Hid (p7 ≤ p8) := hid (by rw [← Hp8.out]; exact le_toNat _ _)
        have G8 := hid (G7.out.mark hG (c := 61) (by decide) HR8.out)
        rw [Hp8.out, Hb8.out] at G8
        clear s8 s8' h8 h8' HR8 Hp8 Hb8 V7 S7
        go_wp2_with fail
        refine (HSU.out p8 b8 _ S8.out).mono ?_
        rintro e n9 ⟨x9, u9, p9, b9, rfl, g9⟩
        have o9 := oneX x9 u9 g9.ev.isOne
        have T9 := hid (V8.out.step g9.wr)
        have E9 := hid (V8.out.evx g9.ev)
        have X9 := hid g9.rd
        have L9 := hid g9.le
        have G9 := hid (G8.out.sub g9.rel)
        clear g9 V8 S8
        go_wp2_with (refine sA rfl 43 _ _ rfl (w.heap.size + 1) 10 (xC x9 u9).toArray rfl rfl (T9.out.part 10 (by omega)) sizeIE2 o9 ?_; intro W hW; have V9 : Hid (VarT b w w.heap.size (w.heap.size + 1) { { { (zeroS 0) with k := 3 } with s := nm7 } with x3 := x9 } .nil nilS nilS u9 nilS nilS W) := hid (by rw [← hW]; exact T9.out.set3 E9.out); have S9 : Hid (Rd5 b v ts p9 0 b9 W) := hid (by rw [← hW]; exact X9.out.other (by have := T9.out.hn; have := T9.out.hb; omega) _ _); clear hW)
        obtain ⟨w9, hw9⟩ : ∃ z, W = z := ⟨_, rfl⟩
        rw [hw9] at V9 S9 ⊢
        clear hw9 W T9 E9 X9
        have H9 := hid G9.out.st
        obtain ⟨R10, HR10⟩ : ∃ R, Hid (isR b9 3 [116, 111] (ts.drop p9) = R) := ⟨_, rfl⟩
        go_wp2_with fail
        refine (l5Kept_is b v ts p9 0 b9 [116, 111] R10 HR10.out _ S9.out).mono ?_
        rintro e m10 ⟨rfl, s10, h10⟩
        go_wp2_with fail
        refine (l5Must_is b v ts (p9 + R10.toNat) 0 b9 R10 _ s10).mono ?_
        rintro e q10 ⟨rfl, s10', h10'⟩
        obtain ⟨p10, Hp10⟩ : ∃ n, Hid (p9 + R10.toNat = n) := ⟨_, rfl⟩
        obtain ⟨b10, Hb10⟩ : ∃ n, Hid ((b9 || !R10) = n) := ⟨_, rfl⟩
        rw [Hp10.out, Hb10.out] at s10'
        have S10 := hid s10'
        have V10 := hid (V9.out.step (h10.trans h10'))
        have L10 : Hid (p9 ≤ p10) := hid (by rw [← Hp10.out]; exact le_toNat _ _)
        have G10 := hid (H9.out.kept hG (s := [116, 111]) (by decide) HR10.out)
        rw [Hp10.out, Hb10.out] at G10
        clear s10 s10' h10 h10' HR10 Hp10 Hb10 V9 S9
        go_wp2_with fail
        refine (HSU.out p10 b10 _ S10.out).mono ?_
        rintro e n11 ⟨x11, u11, p11, b11, rfl, g11⟩
        have o11 := oneX x11 u11 g11.ev.isOne
        have T11 := hid (V10.out.step g11.wr)
        have E11 := hid (V10.out.evx g11.ev)
        have X11 := hid g11.rd
        have L11 := hid g11.le
        have G11 := hid (G10.out.sub g11.rel)
        clear g11 V10 S10
        go_wp2_with (refine sA rfl 43 _ _ rfl (w.heap.size + 1) 14 (xC x11 u11).toArray rfl rfl (T11.out.part 14 (by omega)) sizeIE2 o11 ?_; intro W hW; have V11 : Hid (VarT b w w.heap.size (w.heap.size + 1) { { { { (zeroS 0) with k := 3 } with s := nm7 } with x3 := x9 } with x4 := x11 } .nil nilS nilS u9 u11 nilS W) := hid (by rw [← hW]; exact T11.out.set4 E11.out); have S11 : Hid (Rd5 b v ts p11 0 b11 W) := hid (by rw [← hW]; exact X11.out.other (by have := T11.out.hn; have := T11.out.hb; omega) _ _); clear hW)
        obtain ⟨w11, hw11⟩ : ∃ z, W = z := ⟨_, rfl⟩
        rw [hw11] at V11 S11 ⊢
        clear hw11 W T11 E11 X11
        have H11 := hid G11.out.st
        obtain ⟨R12, HR12⟩ : ∃ R, Hid (isR b11 4 [123] (ts.drop p11) = R) := ⟨_, rfl⟩
        go_wp2_with fail
        refine (l5Mark_is b v ts p11 0 b11 [123] R12 HR12.out _ S11.out).mono ?_
        rintro e m12 ⟨rfl, s12, h12⟩
        go_wp2_with fail
        refine (l5Must_is b v ts (p11 + R12.toNat) 0 b11 R12 _ s12).mono ?_
        rintro e q12 ⟨rfl, s12', h12'⟩
        obtain ⟨p12, Hp12⟩ : ∃ n, Hid (p11 + R12.toNat = n) := ⟨_, rfl⟩
        obtain ⟨b12, Hb12⟩ : ∃ n, Hid ((b11 || !R12) = n) := ⟨_, rfl⟩
        rw [Hp12.out, Hb12.out] at s12'
        have S12 := hid s12'
        have V12 := hid (V11.out.step (h12.trans h12'))
        have L12 : Hid (p11 ≤ p12) := hid (by rw [← Hp12.out]; exact le_toNat _ _)
        have G12 := hid (H11.out.mark hG (c := 123) (by decide) HR12.out)
        rw [Hp12.out, Hb12.out] at G12
        clear s12 s12' h12 h12' HR12 Hp12 Hb12 V11 S11
        have HD := hid (head_st N7.out G9.out G11.out G12.out)
        obtain ⟨q, hq⟩ : ∃ z, q12 = z := ⟨_, rfl⟩
        obtain ⟨HX, hHX⟩ : ∃ z : SH, { { { { (zeroS 0) with k := 3 } with s := nm7 } with x3 := x9 } with x4 := x11 } = z := ⟨_, rfl⟩
        rw [hq, hHX] at V12
        rw [hq] at S12 ⊢
        clear hq
        have HHX := hid hHX
        clear hHX
        have VL := V12
        have L0 : Hid (LoS b v ts (w.heap.size + 1) HX nilS nilS u9 u11 q .nil [] nilS p12 b12 q) := ⟨VL.out.rg, VL.out.th, S12.out, ⟨rfl, .inl ⟨rfl, rfl⟩⟩, rfl, Kp5.refl _ _ _, Nat.zero_le _, by have := VL.out.hn; have := VL.out.hb; omega, VL.out.lt⟩
        have B0t := hid (BdT.start (st := stmtP d0) HD.out.st)
        obtain ⟨TOT, hTOT⟩ : ∃ z, (Option.map Prod.snd ((from5 false (ts.drop (p + 1))).bind headP)).bind (bodyP (stmtP d0)) = z := ⟨_, rfl⟩
        rw [hTOT] at B0t
        have HTOT := hid hTOT
        clear hTOT V12 S12
        obtain ⟨i0, hi, hz0, hz1, hz2⟩ := info_parts infoIS5
        have HI := hid (And.intro hi (And.intro hz0 (And.intro hz1 hz2)))
        clear hi hz0 hz1 hz2
        have hdw : IntKind.i64.wrap (deep + 1) = deep + 1 := wrap_small _ (by omega) (by omega)
        go_wp2_with fail
        go_loopw [83] (fun _ wr => ∃ (P : SF) (xs : List Value) (t : Value) (p1 : Nat) (bad1 : Bool), Hid (LoS b v ts (w.heap.size + 1) HX nilS nilS u9 u11 q P xs t p1 bad1 wr) ∧ Hid (BdT ts (stmtP d0) TOT P p1 bad1) ∧ Hid (p12 ≤ p1)) (fun _ wr => mesOf b wr)
        case atStart => exact ⟨.nil, [], nilS, p12, b12, L0, B0t, Nat.le_refl _⟩
        case round =>
          obtain ⟨P, xs, t, p1, bad1, hS1, hB1, hL1⟩ := hrel
          clear L0 B0t
          obtain ⟨_, _, _, q3⟩ := hS1.out.rd.cells
          cases bad1 with
          | true =>
            have BF := hid hB1.out.fin
            have V9 := hid (hS1.out.fin VL.out)
            have S9 := hid hS1.out.rd
            clear hB1 hS1 VL
            go_wp2_with (first | (refine wpList_load_mid rfl 98 _ rfl (w.heap.size + 1) 0 rfl _ _ V9.out.rg Tryz.underlying98 rfl sizeIS ?_) | (refine sA rfl 98 _ _ rfl _ _ _ rfl rfl ?hte13 sizeIS ?hoe13 ?_; exact V9.out.thN; exact (oneS HX nilS nilS u9 u11 t V9.out.ex.e1.ev.isOne V9.out.ex.e2.ev.isOne V9.out.ex.e3.ev.isOne V9.out.ex.e4.ev.isOne V9.out.sx.sv.isOne); intro WE hW; have HC := hid (V9.out.close hW); have SE := hid (S9.out.other (n := w.heap.size) hbN 0 (scells HX nilS nilS u9 u11 t)); rw [show _ = WE from hW] at SE; clear hW))
            obtain ⟨rg, q1, q2, _, q4⟩ := HC.out
            have hlv := run_loadVar_mid WE w.heap.size 0 _ _ _ rg Tryz.underlying98 rfl sizeIS
            refine bodyPost_ret (v := .agg (scells HX nilS nilS u9 u11 t).toArray) ?_ rfl ⟨HX, P, nilS, nilS, u9, u11, t, _, _, rfl, q1, q2, SE.out, q4, by have := L7.out; have := L8.out; have := L9.out; have := L10.out; have := L11.out; have := L12.out; have := hL1.out; omega, by rw [EQ.out, ← HHX.out]; rw [← HTOT.out] at BF; exact loop_st HD.out BF.out⟩
            simp [results, Tryz.results96, asAddr, hlv, Act.put]
            try rfl
          | false =>
            obtain ⟨RR, HRR⟩ : ∃ R, Hid (isR false 4 [125] (ts.drop p1) = R) := ⟨_, rfl⟩
            go_wp2_with fail
            refine (l5Mark_is b v ts p1 0 false [125] RR HRR.out _ hS1.out.rd).mono ?_
            rintro e m2 ⟨rfl, s2, h2⟩
            cases RR with
            | true =>
              have S1 := hid (hS1.out.turn h2 (p' := p1 + 1) (bad' := false) s2 (by have := hS1.out.le; simp only [Bool.toNat_false] at this ⊢; omega))
              have BF := hid (hB1.out.end_ (mark_yes hG (by decide) HRR.out).2)
              have V9 := hid (S1.out.fin VL.out)
              have S9 := hid S1.out.rd
              clear hB1 hS1 VL S1 s2 h2
              go_wp2_with (first | (refine wpList_load_mid rfl 98 _ rfl (w.heap.size + 1) 0 rfl _ _ V9.out.rg Tryz.underlying98 rfl sizeIS ?_) | (refine sA rfl 98 _ _ rfl _ _ _ rfl rfl ?hte14 sizeIS ?hoe14 ?_; exact V9.out.thN; exact (oneS HX nilS nilS u9 u11 t V9.out.ex.e1.ev.isOne V9.out.ex.e2.ev.isOne V9.out.ex.e3.ev.isOne V9.out.ex.e4.ev.isOne V9.out.sx.sv.isOne); intro WE hW; have HC := hid (V9.out.close hW); have SE := hid (S9.out.other (n := w.heap.size) hbN 0 (scells HX nilS nilS u9 u11 t)); rw [show _ = WE from hW] at SE; clear hW))
              obtain ⟨rg, q1, q2, _, q4⟩ := HC.out
              have hlv := run_loadVar_mid WE w.heap.size 0 _ _ _ rg Tryz.underlying98 rfl sizeIS
              refine bodyPost_ret (v := .agg (scells HX nilS nilS u9 u11 t).toArray) ?_ rfl ⟨HX, P, nilS, nilS, u9, u11, t, _, _, rfl, q1, q2, SE.out, q4, by have := L7.out; have := L8.out; have := L9.out; have := L10.out; have := L11.out; have := L12.out; have := hL1.out; omega, by rw [EQ.out, ← HHX.out]; rw [← HTOT.out] at BF; exact loop_st HD.out BF.out⟩
              simp [results, Tryz.results96, asAddr, hlv, Act.put]
              try rfl
            | false =>
              have S1 := hid (hS1.out.turn h2 (p' := p1) (bad' := false) s2 hS1.out.le)
              have RD1 := hid hS1.out.rd
              clear s2 h2 hS1
              go_wp2_with fail
              have bd : Below m2.heap.size m2 m2.drew := (Below.refl _ m2).drew
              have S2 := hid (S1.out.turn (.of_below bd) (S1.out.rd.later bd) S1.out.le)
              obtain ⟨W5, hW5⟩ : ∃ z, m2.drew = z := ⟨_, rfl⟩
              obtain ⟨ta, tc, rfl⟩ := ownShape' S2.out.own
              have hS := S2.out.rg 18 _ rfl
              rw [Nat.zero_add] at hS
              refine wp_region_last (fun w' => w'.cell? ⟨w.heap.size + 1, 18, Option.none⟩ = some (.slice ta (slen P) tc)) 9 (by kernel_rfl) ?_
              rw [hW5] at S2 hS ⊢
              clear bd S1 hW5
              refine wpAnyL_take (i := 0) (v := .pointer (some ⟨w.heap.size + 1, 18, Option.none⟩)) rfl (by kernel_rfl) (by kernel_rfl) (by kernel_rfl) (by kernel_rfl) (fun _ _ _ => id) (Or.inl ⟨by rfl, ?la0⟩) hS ?_
              case la0 => intro w hSw; go_simp
              simp only [Act.put, zp]
              refine wpAnyL_take (i := 1) (v := .slice ta (slen P) tc) rfl (by kernel_rfl) (by kernel_rfl) (by kernel_rfl) (by kernel_rfl) (fun _ _ _ => id) (Or.inl ⟨by rfl, ?la1⟩) hS ?_
              case la1 => intro w hSw; go_simp
              simp only [Act.put, zp]
              refine wpAnyL_take (i := 2) (v := .pointer (some ⟨b, 0, Option.none⟩)) rfl (by kernel_rfl) (by kernel_rfl) (by kernel_rfl) (by kernel_rfl) (fun _ _ _ => id) (Or.inl ⟨by rfl, ?la2⟩) hS ?_
              case la2 => intro w hSw; go_simp
              simp only [Act.put, zp]
              refine wpAnyL_take (i := 3) (v := .int .i64 deep) rfl (by kernel_rfl) (by kernel_rfl) (by kernel_rfl) (by kernel_rfl) (fun _ _ _ => id) (Or.inl ⟨by rfl, ?la3⟩) hS ?_
              case la3 => intro w hSw; go_simp
              simp only [Act.put, zp]
              refine wpAnyL_take (i := 4) (v := .int .i64 (deep + 1)) rfl (by kernel_rfl) (by kernel_rfl) (by kernel_rfl) (by kernel_rfl) (fun _ _ _ => id) (Or.inl ⟨by rfl, ?la4⟩) hS ?_
              case la4 => intro w hSw; go_simp
              simp only [Act.put, zp]
              refine wpAnyL_ready (rs := [5]) (by kernel_rfl) (by simp) ?_
              refine AllReadyL.cons rfl (fun K hK => ?_) AllReadyL.nil
              rw [if_pos (by rfl)]
              simp only [zq]
              go_wp2_with fail
              refine (Hih.out d0 rfl (deep + 1) (by have := HDD.out; omega) p1 false _ S2.out.rd).mono ?_
              rintro e w6 ⟨h9, F9, y1, y2, y3, y4, y5, p2, b2, rfl, g2⟩
              have g2hv := g2.hv
              have g2sv := g2.sv
              obtain ⟨a1, e1, rfl⟩ := g2hv.e1.shape
              obtain ⟨a2, e2, rfl⟩ := g2hv.e2.shape
              obtain ⟨a3, e3, rfl⟩ := g2hv.e3.shape
              obtain ⟨a4, e4, rfl⟩ := g2hv.e4.shape
              obtain ⟨va, vc, rfl⟩ := g2sv.shape
              have K2 := hid g2
              have hgl := S2.out.glt
              have hkz := S2.out.kp.size
              have hpl := S2.out.rd.hp
              have hptl := S2.out.rd.hts
              have S3 := hid (S2.out.turn K2.out.wr K2.out.rd (by have := S2.out.le; have := K2.out.le; simp only [Bool.toNat_false] at *; omega))
              have RD5 := hid S2.out.rd
              have hS6 := S3.out.rg 18 _ rfl
              rw [Nat.zero_add] at hS6
              have LE6 : Hid (slen P + 1 ≤ p2 + b2.toNat) := by
                have h1 := S2.out.le
                have h2 := K2.out.le
                show _ ≤ _
                cases hb2 : b2 with
                | true => simp only [Bool.toNat_false, Bool.toNat_true] at h1 ⊢; omega
                | false =>
                  have h3 := stmt_goes H6.out K2.out.rel hb2
                  simp only [List.length_drop] at h3
                  simp only [Bool.toNat_false] at h1 ⊢; omega
              clear g2 g2hv g2sv S2 hS
              go_wp2_with fail
              refine hK.out _ _ (fun _ => hS6) ?_
              clear hK
              refine wpAnyL_ready (rs := [6]) (by kernel_rfl) (by simp) ?_
              refine AllReadyL.cons rfl (fun K hK => ?_) AllReadyL.nil
              rw [if_pos (by rfl)]
              simp only [zq]
              go_wp2_with fail
              refine hK.out _ _ (fun _ => keeps (aB _ _) hS6) ?_
              have hS7 := keeps (aB w6 (.cells #[.int .i64 h9.k, .string h9.s, .int .i64 h9.x1.h.k, .int .i64 h9.x1.h.n, .string h9.x1.h.s, (.slice a1 (elen h9.x1.l) e1), .int .i64 h9.x2.h.k, .int .i64 h9.x2.h.n, .string h9.x2.h.s, (.slice a2 (elen h9.x2.l) e2), .int .i64 h9.x3.h.k, .int .i64 h9.x3.h.n, .string h9.x3.h.s, (.slice a3 (elen h9.x3.l) e3), .int .i64 h9.x4.h.k, .int .i64 h9.x4.h.n, .string h9.x4.h.s, (.slice a4 (elen h9.x4.l) e4), (.slice va (slen F9) vc)] 98)) hS6
              clear hK hS6
              try simp only [Act.put, zp]
              refine wpAnyL_ready (rs := [7]) (by kernel_rfl) (by simp) ?_
              refine AllReadyL.cons rfl (fun K hK => ?_) AllReadyL.nil
              rw [if_pos (by rfl)]
              simp only [zq]
              refine wp_append_lies _ _ _ 25 (by rfl) q.heap.size 98 i0 _ 19 272 Tryz.underlying25 HI.out.1 HI.out.2.1 HI.out.2.2.1 HI.out.2.2.2 rfl (by decide) _ _ _ (by rfl) (S3.out.own.alloc _) ⟨w6.heap.size, 0, Option.none⟩ 1 1 [.int .i64 h9.k, .string h9.s, .int .i64 h9.x1.h.k, .int .i64 h9.x1.h.n, .string h9.x1.h.s, (.slice a1 (elen h9.x1.l) e1), .int .i64 h9.x2.h.k, .int .i64 h9.x2.h.n, .string h9.x2.h.s, (.slice a2 (elen h9.x2.l) e2), .int .i64 h9.x3.h.k, .int .i64 h9.x3.h.n, .string h9.x3.h.s, (.slice a3 (elen h9.x3.l) e3), .int .i64 h9.x4.h.k, .int .i64 h9.x4.h.n, .string h9.x4.h.s, (.slice a4 (elen h9.x4.l) e4), (.slice va (slen F9) vc)] (by rfl) (by rfl) ?k1la ?k2la (by decide) ?k3la ?k4la ?k5la (w6.heap.size + 1) (by simp) ?_
              case k1la => exact newsN5 _ _ _
              case k2la => exact ones195 K2.out.hv K2.out.sv
              case k3la => have := S3.out.le; have := S3.out.rd.hp; have := Bool.toNat_le b2; unfold maxLen; omega
              case k4la => have := S3.out.le; have := S3.out.rd.hp; have := Bool.toNat_le b2; omega
              case k5la => have := S3.out.kp.size; simp; omega
              intro g c7 w7 hown hgr hat hlt
              have hcs : scells h9 (.slice a1 (elen h9.x1.l) e1) (.slice a2 (elen h9.x2.l) e2) (.slice a3 (elen h9.x3.l) e3) (.slice a4 (elen h9.x4.l) e4) (.slice va (slen F9) vc) = [.int .i64 h9.k, .string h9.s, .int .i64 h9.x1.h.k, .int .i64 h9.x1.h.n, .string h9.x1.h.s, (.slice a1 (elen h9.x1.l) e1), .int .i64 h9.x2.h.k, .int .i64 h9.x2.h.n, .string h9.x2.h.s, (.slice a2 (elen h9.x2.l) e2), .int .i64 h9.x3.h.k, .int .i64 h9.x3.h.n, .string h9.x3.h.s, (.slice a3 (elen h9.x3.l) e3), .int .i64 h9.x4.h.k, .int .i64 h9.x4.h.n, .string h9.x4.h.s, (.slice a4 (elen h9.x4.l) e4), (.slice va (slen F9) vc)] := rfl
              have hown7 := hown
              rw [← hcs] at hown7
              have S7 := hid (S3.out.next (wz := W5) hgl hkz K2.out.hv K2.out.sv hown7 hgr (by rcases hat with e | e; exact .inl e; exact .inr (by omega)) LE6.out)
              have hBel : Below q.heap.size w6 w7 := ((aB w6 _).mono S3.out.kp.size).grown hgr (by simp; have := S3.out.kp.size; omega) (fun k hk => (S3.out.own.lt k hk).1)
              have hS8 : w7.cell? ⟨w.heap.size + 1, 18, Option.none⟩ = some (.slice ta (slen P) tc) := by rw [hBel.cell (p := ⟨w.heap.size + 1, 18, Option.none⟩) S3.out.hn.2]; have := S3.out.rg 18 _ rfl; rwa [Nat.zero_add] at this
              have f18 : w7.frozen? ⟨w.heap.size + 1, 18, Option.none⟩ = false := by
                have e := hBel.block (w.heap.size + 1) S3.out.hn.2
                have := (S3.out.th 18 (by omega)).2
                rw [Nat.zero_add] at this
                rw [World.frozen?_of_block (show w7.heap[(⟨w.heap.size + 1, 18, Option.none⟩ : Addr).block]? = _ from e)]; exact this
              refine hK.out _ _ (fun _ => hS8) ?_
              clear hK hown hown7 hgr hat hlt hcs hBel hS7
              simp only [Act.put, zp]
              refine wpAnyL_take (i := 8) (v := .pointer (some ⟨w.heap.size + 1, 18, Option.none⟩)) rfl (by kernel_rfl) (by kernel_rfl) (by kernel_rfl) (by kernel_rfl) (fun _ _ _ => id) (Or.inl ⟨by rfl, ?laz8⟩) hS8 ?_
              case laz8 => intro w hSw; go_simp
              simp only [Act.put, zp]
              refine wpAnyL_ready (rs := [9]) (by kernel_rfl) (by simp) ?_
              refine AllReadyL.cons rfl (fun K hK => ?_) AllReadyL.nil
              rw [if_pos (by rfl)]
              simp only [zq]
              go_wp2_with fail
              refine hK.out _ _ (fun e => absurd rfl e) ?_
              clear hK hS8 f18
              refine wpAnyL_done (by kernel_rfl) ?_ _
              have BN := hid (hB1.out.next (mark_no hG (by decide) HRR.out rfl) K2.out.rel (stmt_goes H6.out K2.out.rel))
              have ML := hid (mes_less RD1.out S7.out.rd K2.out.le (fun e => by have h3 := stmt_goes H6.out K2.out.rel e; simp only [List.length_drop] at h3; omega))
              have LE7 : Hid (p12 ≤ p2) := Nat.le_trans hL1.out K2.out.le
              clear hB1 K2 S3 HRR RD1 RD5
              go_wp2
              go_roundw
              case measure => exact ML.out
              case rel => exact ⟨_, _, _, p2, b2, S7, BN, LE7⟩
      | false =>
        have SC : Hid (Rd5 b v ts p 0 bad m2) := s2
        have EQ : Hid (resS bad (stmtP (d0 + 1)) (ts.drop p) = (from5 bad (ts.drop p)).bind assignP) := by
          cases hb : bad with
          | true => rfl
          | false =>
            show stmtP (d0 + 1) (ts.drop p) = assignP _
            rw [stmtP, NP.out hb, kept_no hG (by decide) HRF.out hb]
        have GC := hid (St5.start ts p bad)
        clear s2 h2 VB SB HRF NP
        obtain ⟨R15, HR15⟩ : ∃ R, Hid (kindR bad 1 (ts.drop p) = R) := ⟨_, rfl⟩
        go_wp2_with fail
        refine (l5Name_is b v ts p 0 bad R15 HR15.out _ SC.out).mono ?_
        rintro e m15 ⟨he, s15, h15⟩
        obtain ⟨nm15, rfl, hn15⟩ : ∃ nm, e = .returned (.string nm) ∧ ((R15 = true ∧ ∃ t, ts[p]? = some t ∧ nm = bs t.s) ∨ (R15 = false ∧ nm = ⟨#[]⟩)) := by
          rcases he with ⟨h1, t, h2, h3⟩ | ⟨h1, h2⟩
          · exact ⟨_, h3, .inl ⟨h1, t, h2, rfl⟩⟩
          · exact ⟨_, h2, .inr ⟨h1, rfl⟩⟩
        have N15 := hid (GC.out.name HR15.out hn15)
        obtain ⟨p15, Hp15⟩ : ∃ n, Hid (p + R15.toNat = n) := ⟨_, rfl⟩
        obtain ⟨b15, Hb15⟩ : ∃ n, Hid ((bad || !R15) = n) := ⟨_, rfl⟩
        rw [Hp15.out, Hb15.out] at s15 N15
        have L15 : Hid (p ≤ p15) := hid (by rw [← Hp15.out]; exact le_toNat _ _)
        have T15 := hid (VC.out.step h15)
        have V15 := hid (T15.out.setS nm15)
        have S15 := hid (s15.other1 (n := w.heap.size + 1) (by have := VC.out.hn; have := VC.out.hb; omega) 1 (.string nm15))
        have G15 := hid N15.out.st
        obtain ⟨_, ⟨c15, f15⟩, _⟩ := T15.out.free
        clear he hn15 s15 h15 HR15 Hp15 Hb15 VC SC T15
        obtain ⟨⟨c16, f16⟩, _, _⟩ := V15.out.free
        have V16 := hid (V15.out.setK 1)
        have S16 := hid (S15.out.other1 (n := w.heap.size + 1) (by have := V15.out.hn; have := V15.out.hb; omega) 0 (.int .i64 1))
        clear V15 S15
        obtain ⟨RB, HRB⟩ : ∃ R, Hid (isR b15 4 [91] (ts.drop p15) = R) := ⟨_, rfl⟩
        go_wp2_with fail
        refine (l5Mark_is b v ts p15 0 b15 [91] RB HRB.out _ S16.out).mono ?_
        rintro e m3 ⟨rfl, s3, h3⟩
        have VD := hid (V16.out.step h3)
        cases RB with
        | true =>
          obtain ⟨hb0, hpe⟩ := mark_yes hG (by decide) HRB.out
          have GD := hid (G15.out.mark hG (c := 91) (by decide) HRB.out)
          rw [show (b15 || !true) = b15 by simp] at GD
          have SD : Hid (Rd5 b v ts (p15 + 1) 0 b15 m3) := s3
          have YES : Hid (b15 = false → (eat [91] (ts.drop p15)).isSome = true) := fun _ => by rw [hpe]; rfl
          clear s3 h3 V16 S16 HRB hpe hb0
          obtain ⟨⟨c18, f18⟩, _, _⟩ := VD.out.free
          have V18 := hid (VD.out.setK 2)
          have S18 := hid (SD.out.other1 (n := w.heap.size + 1) (by have := VD.out.hn; have := VD.out.hb; omega) 0 (.int .i64 2))
          clear VD SD
          go_wp2_with fail
          refine (HSU.out (p15 + 1) b15 _ S18.out).mono ?_
          rintro e n19 ⟨x19, u19, p19, b19, rfl, g19⟩
          have o19 := oneX x19 u19 g19.ev.isOne
          have T19 := hid (V18.out.step g19.wr)
          have E19 := hid (V18.out.evx g19.ev)
          have X19 := hid g19.rd
          have L19 := hid g19.le
          have G19 := hid (GD.out.sub g19.rel)
          clear g19 V18 S18
          go_wp2_with (refine sA rfl 43 _ _ rfl (w.heap.size + 1) 2 (xC x19 u19).toArray rfl rfl (T19.out.part 2 (by omega)) sizeIE2 o19 ?_; intro W hW; have V19 : Hid (VarT b w w.heap.size (w.heap.size + 1) { { { { (zeroS 0) with s := nm15 } with k := 1 } with k := 2 } with x1 := x19 } .nil u19 nilS nilS nilS nilS W) := hid (by rw [← hW]; exact T19.out.set1 E19.out); have S19 : Hid (Rd5 b v ts p19 0 b19 W) := hid (by rw [← hW]; exact X19.out.other (by have := T19.out.hn; have := T19.out.hb; omega) _ _); clear hW)
          obtain ⟨w19, hw19⟩ : ∃ z, W = z := ⟨_, rfl⟩
          rw [hw19] at V19 S19 ⊢
          clear hw19 W T19 E19 X19
          have H19 := hid G19.out.st
          obtain ⟨R20, HR20⟩ : ∃ R, Hid (isR b19 4 [93] (ts.drop p19) = R) := ⟨_, rfl⟩
          go_wp2_with fail
          refine (l5Mark_is b v ts p19 0 b19 [93] R20 HR20.out _ S19.out).mono ?_
          rintro e m20 ⟨rfl, s20, h20⟩
          go_wp2_with fail
          refine (l5Must_is b v ts (p19 + R20.toNat) 0 b19 R20 _ s20).mono ?_
          rintro e q20 ⟨rfl, s20', h20'⟩
          obtain ⟨p20, Hp20⟩ : ∃ n, Hid (p19 + R20.toNat = n) := ⟨_, rfl⟩
          obtain ⟨b20, Hb20⟩ : ∃ n, Hid ((b19 || !R20) = n) := ⟨_, rfl⟩
          rw [Hp20.out, Hb20.out] at s20'
          have S20 := hid s20'
          have V20 := hid (V19.out.step (h20.trans h20'))
          have L20 : Hid (p19 ≤ p20) := hid (by rw [← Hp20.out]; exact le_toNat _ _)
          have G20 := hid (H19.out.mark hG (c := 93) (by decide) HR20.out)
          rw [Hp20.out, Hb20.out] at G20
          clear s20 s20' h20 h20' HR20 Hp20 Hb20 V19 S19
          obtain ⟨R21, HR21⟩ : ∃ R, Hid (isR b20 4 [61] (ts.drop p20) = R) := ⟨_, rfl⟩
          go_wp2_with fail
          refine (l5Mark_is b v ts p20 0 b20 [61] R21 HR21.out _ S20.out).mono ?_
          rintro e m21 ⟨rfl, s21, h21⟩
          go_wp2_with fail
          refine (l5Must_is b v ts (p20 + R21.toNat) 0 b20 R21 _ s21).mono ?_
          rintro e q21 ⟨rfl, s21', h21'⟩
          obtain ⟨p21, Hp21⟩ : ∃ n, Hid (p20 + R21.toNat = n) := ⟨_, rfl⟩
          obtain ⟨b21, Hb21⟩ : ∃ n, Hid ((b20 || !R21) = n) := ⟨_, rfl⟩
          rw [Hp21.out, Hb21.out] at s21'
          have S21 := hid s21'
          have V21 := hid (V20.out.step (h21.trans h21'))
          have L21 : Hid (p20 ≤ p21) := hid (by rw [← Hp21.out]; exact le_toNat _ _)
          have G21 := hid (G20.out.mark hG (c := 61) (by decide) HR21.out)
          rw [Hp21.out, Hb21.out] at G21
          clear s21 s21' h21 h21' HR21 Hp21 Hb21 V20 S20
          go_wp2_with fail
          refine (HSU.out p21 b21 _ S21.out).mono ?_
          rintro e n22 ⟨x22, u22, p22, b22, rfl, g22⟩
          have o22 := oneX x22 u22 g22.ev.isOne
          have T22 := hid (V21.out.step g22.wr)
          have E22 := hid (V21.out.evx g22.ev)
          have X22 := hid g22.rd
          have L22 := hid g22.le
          have G22 := hid (G21.out.sub g22.rel)
          clear g22 V21 S21
          go_wp2_with (refine sA rfl 43 _ _ rfl (w.heap.size + 1) 6 (xC x22 u22).toArray rfl rfl (T22.out.part 6 (by omega)) sizeIE2 o22 ?_; intro W hW; have V22 : Hid (VarT b w w.heap.size (w.heap.size + 1) { { { { { (zeroS 0) with s := nm15 } with k := 1 } with k := 2 } with x1 := x19 } with x2 := x22 } .nil u19 u22 nilS nilS nilS W) := hid (by rw [← hW]; exact T22.out.set2 E22.out); have S22 : Hid (Rd5 b v ts p22 0 b22 W) := hid (by rw [← hW]; exact X22.out.other (by have := T22.out.hn; have := T22.out.hb; omega) _ _); clear hW)
          obtain ⟨w22, hw22⟩ : ∃ z, W = z := ⟨_, rfl⟩
          rw [hw22] at V22 S22 ⊢
          clear hw22 W T22 E22 X22
          have H22 := hid G22.out.st
          obtain ⟨R23, HR23⟩ : ∃ R, Hid (isR b22 4 [59] (ts.drop p22) = R) := ⟨_, rfl⟩
          go_wp2_with fail
          refine (l5Mark_is b v ts p22 0 b22 [59] R23 HR23.out _ S22.out).mono ?_
          rintro e m23 ⟨rfl, s23, h23⟩
          go_wp2_with fail
          refine (l5Must_is b v ts (p22 + R23.toNat) 0 b22 R23 _ s23).mono ?_
          rintro e q23 ⟨rfl, s23', h23'⟩
          obtain ⟨p23, Hp23⟩ : ∃ n, Hid (p22 + R23.toNat = n) := ⟨_, rfl⟩
          obtain ⟨b23, Hb23⟩ : ∃ n, Hid ((b22 || !R23) = n) := ⟨_, rfl⟩
          rw [Hp23.out, Hb23.out] at s23'
          have S23 := hid s23'
          have V23 := hid (V22.out.step (h23.trans h23'))
          have L23 : Hid (p22 ≤ p23) := hid (by rw [← Hp23.out]; exact le_toNat _ _)
          have G23 := hid (H22.out.mark hG (c := 59) (by decide) HR23.out)
          rw [Hp23.out, Hb23.out] at G23
          clear s23 s23' h23 h23' HR23 Hp23 Hb23 V22 S22
          go_wp2_with (first | (refine wpList_load_mid rfl 98 _ rfl (w.heap.size + 1) 0 rfl _ _ V23.out.rg Tryz.underlying98 rfl sizeIS ?_) | (refine sA rfl 98 _ _ rfl _ _ _ rfl rfl ?hte24 sizeIS ?hoe24 ?_; exact V23.out.thN; exact (oneS { { { { { (zeroS 0) with s := nm15 } with k := 1 } with k := 2 } with x1 := x19 } with x2 := x22 } u19 u22 nilS nilS nilS V23.out.ex.e1.ev.isOne V23.out.ex.e2.ev.isOne V23.out.ex.e3.ev.isOne V23.out.ex.e4.ev.isOne V23.out.sx.sv.isOne); intro WE hW; have HC := hid (V23.out.close hW); have SE := hid (S23.out.other (n := w.heap.size) hbN 0 (scells { { { { { (zeroS 0) with s := nm15 } with k := 1 } with k := 2 } with x1 := x19 } with x2 := x22 } u19 u22 nilS nilS nilS)); rw [show _ = WE from hW] at SE; clear hW))
          obtain ⟨rg, q1, q2, _, q4⟩ := HC.out
          have hlv := run_loadVar_mid WE w.heap.size 0 _ _ _ rg Tryz.underlying98 rfl sizeIS
          refine bodyPost_ret (v := .agg (scells { { { { { (zeroS 0) with s := nm15 } with k := 1 } with k := 2 } with x1 := x19 } with x2 := x22 } u19 u22 nilS nilS nilS).toArray) ?_ rfl ⟨{ { { { { (zeroS 0) with s := nm15 } with k := 1 } with k := 2 } with x1 := x19 } with x2 := x22 }, .nil, u19, u22, nilS, nilS, nilS, _, _, rfl, q1, q2, SE.out, q4, by have := L15.out; have := L19.out; have := L20.out; have := L21.out; have := L22.out; have := L23.out; omega, by rw [EQ.out]; exact put_st N15.out G19.out (last_st G22.out G23.out) YES.out⟩
          simp [results, Tryz.results96, asAddr, hlv, Act.put]
          try rfl
        | false =>
          have SD : Hid (Rd5 b v ts p15 0 b15 m3) := s3
          have NO : Hid (b15 = false → eat [91] (ts.drop p15) = none) := fun e => mark_no hG (by decide) HRB.out e
          clear s3 h3 V16 S16 HRB
          obtain ⟨R25, HR25⟩ : ∃ R, Hid (isR b15 4 [61] (ts.drop p15) = R) := ⟨_, rfl⟩
          go_wp2_with fail
          refine (l5Mark_is b v ts p15 0 b15 [61] R25 HR25.out _ SD.out).mono ?_
          rintro e m25 ⟨rfl, s25, h25⟩
          go_wp2_with fail
          refine (l5Must_is b v ts (p15 + R25.toNat) 0 b15 R25 _ s25).mono ?_
          rintro e q25 ⟨rfl, s25', h25'⟩
          obtain ⟨p25, Hp25⟩ : ∃ n, Hid (p15 + R25.toNat = n) := ⟨_, rfl⟩
          obtain ⟨b25, Hb25⟩ : ∃ n, Hid ((b15 || !R25) = n) := ⟨_, rfl⟩
          rw [Hp25.out, Hb25.out] at s25'
          have S25 := hid s25'
          have V25 := hid (VD.out.step (h25.trans h25'))
          have L25 : Hid (p15 ≤ p25) := hid (by rw [← Hp25.out]; exact le_toNat _ _)
          have G25 := hid (G15.out.mark hG (c := 61) (by decide) HR25.out)
          rw [Hp25.out, Hb25.out] at G25
          clear s25 s25' h25 h25' HR25 Hp25 Hb25 VD SD
          go_wp2_with fail
          refine (HSU.out p25 b25 _ S25.out).mono ?_
          rintro e n26 ⟨x26, u26, p26, b26, rfl, g26⟩
          have o26 := oneX x26 u26 g26.ev.isOne
          have T26 := hid (V25.out.step g26.wr)
          have E26 := hid (V25.out.evx g26.ev)
          have X26 := hid g26.rd
          have L26 := hid g26.le
          have G26 := hid (G25.out.sub g26.rel)
          clear g26 V25 S25
          go_wp2_with (refine sA rfl 43 _ _ rfl (w.heap.size + 1) 6 (xC x26 u26).toArray rfl rfl (T26.out.part 6 (by omega)) sizeIE2 o26 ?_; intro W hW; have V26 : Hid (VarT b w w.heap.size (w.heap.size + 1) { { { (zeroS 0) with s := nm15 } with k := 1 } with x2 := x26 } .nil nilS u26 nilS nilS nilS W) := hid (by rw [← hW]; exact T26.out.set2 E26.out); have S26 : Hid (Rd5 b v ts p26 0 b26 W) := hid (by rw [← hW]; exact X26.out.other (by have := T26.out.hn; have := T26.out.hb; omega) _ _); clear hW)
          obtain ⟨w26, hw26⟩ : ∃ z, W = z := ⟨_, rfl⟩
          rw [hw26] at V26 S26 ⊢
          clear hw26 W T26 E26 X26
          have H26 := hid G26.out.st
          obtain ⟨R27, HR27⟩ : ∃ R, Hid (isR b26 4 [59] (ts.drop p26) = R) := ⟨_, rfl⟩
          go_wp2_with fail
          refine (l5Mark_is b v ts p26 0 b26 [59] R27 HR27.out _ S26.out).mono ?_
          rintro e m27 ⟨rfl, s27, h27⟩
          go_wp2_with fail
          refine (l5Must_is b v ts (p26 + R27.toNat) 0 b26 R27 _ s27).mono ?_
          rintro e q27 ⟨rfl, s27', h27'⟩
          obtain ⟨p27, Hp27⟩ : ∃ n, Hid (p26 + R27.toNat = n) := ⟨_, rfl⟩
          obtain ⟨b27, Hb27⟩ : ∃ n, Hid ((b26 || !R27) = n) := ⟨_, rfl⟩
          rw [Hp27.out, Hb27.out] at s27'
          have S27 := hid s27'
          have V27 := hid (V26.out.step (h27.trans h27'))
          have L27 : Hid (p26 ≤ p27) := hid (by rw [← Hp27.out]; exact le_toNat _ _)
          have G27 := hid (H26.out.mark hG (c := 59) (by decide) HR27.out)
          rw [Hp27.out, Hb27.out] at G27
          clear s27 s27' h27 h27' HR27 Hp27 Hb27 V26 S26
          go_wp2_with (first | (refine wpList_load_mid rfl 98 _ rfl (w.heap.size + 1) 0 rfl _ _ V27.out.rg Tryz.underlying98 rfl sizeIS ?_) | (refine sA rfl 98 _ _ rfl _ _ _ rfl rfl ?hte28 sizeIS ?hoe28 ?_; exact V27.out.thN; exact (oneS { { { (zeroS 0) with s := nm15 } with k := 1 } with x2 := x26 } nilS u26 nilS nilS nilS V27.out.ex.e1.ev.isOne V27.out.ex.e2.ev.isOne V27.out.ex.e3.ev.isOne V27.out.ex.e4.ev.isOne V27.out.sx.sv.isOne); intro WE hW; have HC := hid (V27.out.close hW); have SE := hid (S27.out.other (n := w.heap.size) hbN 0 (scells { { { (zeroS 0) with s := nm15 } with k := 1 } with x2 := x26 } nilS u26 nilS nilS nilS)); rw [show _ = WE from hW] at SE; clear hW))
          obtain ⟨rg, q1, q2, _, q4⟩ := HC.out
          have hlv := run_loadVar_mid WE w.heap.size 0 _ _ _ rg Tryz.underlying98 rfl sizeIS
          refine bodyPost_ret (v := .agg (scells { { { (zeroS 0) with s := nm15 } with k := 1 } with x2 := x26 } nilS u26 nilS nilS nilS).toArray) ?_ rfl ⟨{ { { (zeroS 0) with s := nm15 } with k := 1 } with x2 := x26 }, .nil, nilS, u26, nilS, nilS, nilS, _, _, rfl, q1, q2, SE.out, q4, by have := L15.out; have := L25.out; have := L26.out; have := L27.out; omega, by rw [EQ.out]; exact set_st (p1 := 0) (b1 := false) N15.out NO.out (last_st G26.out G27.out)⟩
          simp [results, Tryz.results96, asAddr, hlv, Act.put]
          try rfl
theorem l5Stmt_all (b : Nat) (v : Value) (ts : List T) (hG : ∀ t ∈ ts, Good t) : ∀ d, d ≤ 5 → StmC b v ts d
  | 0, hd => fun deep hdd p bad w st => l5Stmt_of b v ts hG 0 deep hdd hd (fun _ e => by cases e) p bad w st
  | d + 1, hd => fun deep hdd p bad w st => l5Stmt_of b v ts hG (d + 1) deep hdd hd (fun d0 e => by cases e; exact l5Stmt_all b v ts hG d (by omega)) p bad w st
end Go.Proofs.YtpinockfakndlaaGreat
namespace Go.Proofs.YtpinockfakndlaaGreat
open Go.RowKit Go.Lib Go.Maps
set_option linter.unusedSimpArgs false
set_option linter.unusedVariables false
def blt (a b : ByteArray) : Bool := Op.bytesLess a.toList b.toList
theorem blt_iff (a b : ByteArray) : blt a b = true ↔ a.data.toList < b.data.toList := by
  unfold blt; rw [bytesLess_eq, ByteArray.toList_eq, ByteArray.toList_eq]; simp
theorem blt_irrefl (a : ByteArray) : blt a a = false := by
  cases h : blt a a with
  | false => rfl
  | true => exact absurd ((blt_iff a a).1 h) (List.lt_irrefl _)
theorem blt_trans {a b c : ByteArray} (h : blt a b = true) (g : blt b c = true) : blt a c = true := (blt_iff a c).2 (List.lt_trans ((blt_iff a b).1 h) ((blt_iff b c).1 g))
theorem ba_ext {a b : ByteArray} (h : a.data.toList = b.data.toList) : a = b := ByteArray.ext (Array.toList_inj.1 h)
theorem blt_total {a b : ByteArray} (h : blt a b = false) (hne : a ≠ b) : blt b a = true := by
  rw [blt_iff]
  have h1 : ¬ a.data.toList < b.data.toList := fun hh => by rw [(blt_iff a b).2 hh] at h; cases h
  have h2 : b.data.toList ≤ a.data.toList := List.not_lt.1 h1
  rcases List.le_iff_lt_or_eq.1 h2 with h3 | h3
  · exact h3
  · exact absurd (ba_ext h3).symm hne
def Asc (l : List ByteArray) : Prop := l.Pairwise (fun a b => blt a b = true)
theorem Asc.nodup {l : List ByteArray} (h : Asc l) : l.Nodup := List.Pairwise.imp (fun {a b} hab e => by subst e; rw [blt_irrefl] at hab; cases hab) h
theorem asc_ext {l m : List ByteArray} (hl : Asc l) (hm : Asc m) (h : ∀ b, b ∈ l ↔ b ∈ m) : l = m :=
  List.Perm.eq_of_pairwise (le := fun a b => blt a b = true) (fun a b _ _ h1 h2 => by have := blt_trans h1 h2; rw [blt_irrefl] at this; cases this) hl hm ((List.perm_ext_iff_of_nodup hl.nodup hm.nodup).2 h)
def putR (s : ByteArray) : Bool → List ByteArray → List ByteArray
  | d, [] => if d = true then [] else [s]
  | true, x :: r => if x = s then putR s true r else x :: putR s true r
  | false, x :: r => if blt x s = true then (if x = s then putR s false r else x :: putR s false r) else s :: (if x = s then putR s true r else x :: putR s true r)
theorem putR_true (s : ByteArray) : ∀ (l : List ByteArray) (b : ByteArray), b ∈ putR s true l ↔ b ∈ l ∧ b ≠ s
  | [], b => by simp [putR]
  | x :: r, b => by
    have ih := putR_true s r b
    rw [putR]
    by_cases hx : x = s
    · rw [if_pos hx, ih]
      constructor
      · rintro ⟨h1, h2⟩; exact ⟨List.mem_cons_of_mem _ h1, h2⟩
      · rintro ⟨h1, h2⟩
        rcases List.mem_cons.1 h1 with h1 | h1
        · exact absurd (h1.trans hx) h2
        · exact ⟨h1, h2⟩
    · rw [if_neg hx, List.mem_cons, ih, List.mem_cons]
      constructor
      · rintro (h | ⟨h1, h2⟩)
        · exact ⟨.inl h, by rw [h]; exact hx⟩
        · exact ⟨.inr h1, h2⟩
      · rintro ⟨h1 | h1, h2⟩
        · exact .inl h1
        · exact .inr ⟨h1, h2⟩
theorem asc_true (s : ByteArray) : ∀ (l : List ByteArray), Asc l → Asc (putR s true l)
  | [], _ => by simp [putR, Asc]
  | x :: r, h => by
    obtain ⟨h1, h2⟩ := List.pairwise_cons.1 h
    have ih := asc_true s r h2
    rw [putR]
    by_cases hx : x = s
    · rw [if_pos hx]; exact ih
    · rw [if_neg hx]; exact List.pairwise_cons.2 ⟨fun b hb => h1 b ((putR_true s r b).1 hb).1, ih⟩
theorem asc_put (s : ByteArray) : ∀ (l : List ByteArray), Asc l → Asc (putR s false l) ∧ ∀ b, b ∈ putR s false l ↔ (b = s ∨ b ∈ l)
  | [], _ => by simp [putR, Asc]
  | x :: r, h => by
    obtain ⟨h1, h2⟩ := List.pairwise_cons.1 h
    obtain ⟨i1, i2⟩ := asc_put s r h2
    rw [putR]
    cases hb : blt x s with
    | true =>
      have hx : ¬ x = s := fun e => by subst e; rw [blt_irrefl] at hb; cases hb
      rw [if_pos rfl, if_neg hx]
      refine ⟨List.pairwise_cons.2 ⟨fun b hbm => ?_, i1⟩, fun b => ?_⟩
      · rcases (i2 b).1 hbm with e | e
        · subst e; exact hb
        · exact h1 b e
      · rw [List.mem_cons, i2 b, List.mem_cons]
        constructor
        · rintro (e | e | e) <;> simp [e]
        · rintro (e | e | e) <;> simp [e]
    | false =>
      rw [if_neg (by simp)]
      by_cases hx : x = s
      · subst hx
        rw [if_pos rfl]
        refine ⟨List.pairwise_cons.2 ⟨fun b hbm => h1 b ((putR_true x r b).1 hbm).1, asc_true x r h2⟩, fun b => ?_⟩
        rw [List.mem_cons, putR_true, List.mem_cons]
        constructor
        · rintro (e | ⟨e, _⟩)
          · exact .inl e
          · exact .inr (.inr e)
        · rintro (e | e | e)
          · exact .inl e
          · exact .inl e
          · by_cases hbx : b = x
            · exact .inl hbx
            · exact .inr ⟨e, hbx⟩
      · have hsx := blt_total hb hx
        rw [if_neg hx]
        refine ⟨List.pairwise_cons.2 ⟨fun b hbm => ?_, List.pairwise_cons.2 ⟨fun b hbm => h1 b ((putR_true s r b).1 hbm).1, asc_true s r h2⟩⟩, fun b => ?_⟩
        · rcases List.mem_cons.1 hbm with e | e
          · rw [e]; exact hsx
          · exact blt_trans hsx (h1 b ((putR_true s r b).1 e).1)
        · rw [List.mem_cons, List.mem_cons, putR_true, List.mem_cons]
          constructor
          · rintro (e | e | ⟨e, _⟩)
            · exact .inl e
            · exact .inr (.inl e)
            · exact .inr (.inr e)
          · rintro (e | e | e)
            · exact .inl e
            · exact .inr (.inl e)
            · by_cases hbs : b = s
              · exact .inl hbs
              · exact .inr (.inr ⟨e, hbs⟩)
theorem putR_len (s : ByteArray) : ∀ (d : Bool) (l : List ByteArray), (putR s d l).length ≤ l.length + 1
  | true, [] => by simp [putR]
  | false, [] => by simp [putR]
  | true, x :: r => by
    have := putR_len s true r
    rw [putR]; split <;> simp only [List.length_cons] <;> omega
  | false, x :: r => by
    have h1 := putR_len s false r
    have h2 : (putR s true r).length ≤ r.length := by
      clear h1
      induction r with
      | nil => simp [putR]
      | cons y r ih => rw [putR]; split <;> simp only [List.length_cons] <;> omega
    rw [putR]; split <;> split <;> simp only [List.length_cons] <;> omega
def nmS (k : Int) : SF → List ByteArray → List ByteArray
  | .nil, out => out
  | .node _ _ h l r, out => nmS k r (nmS k l (if h.k = k then putR h.s false out else out))
def nmE (k : Int) : EF → List ByteArray → List ByteArray
  | .nil, out => out
  | .node _ _ h l r, out => nmE k r (nmE k l (if h.k = k then putR h.s false out else out))
def nmX (k : Int) (x : X) (out : List ByteArray) : List ByteArray := nmE k x.l (if x.h.k = k then putR x.h.s false out else out)
def nmA (k : Int) : SF → List ByteArray → List ByteArray
  | .nil, out => out
  | .node _ _ h l r, out => nmA k r (nmA k l (nmX k h.x4 (nmX k h.x3 (nmX k h.x2 (nmX k h.x1 out)))))
end Go.Proofs.YtpinockfakndlaaGreat
