/-
  Texts in one: TermMark, AffNames.
-/
import Derived.Test.YtjdpddcnogdekaaP18ofDx
import Derived.Test.YtjdpddcnogdekaaP27ofDx
import Derived.Test.YtjdpddcnogdekaaP25ofDx
/-
  Rows of terms copied so that they may be written over; marks laid over them and found again; the same of sums. Sums that came in, with the bounds of their numbers.
-/
namespace Go.Proofs.Ytjdpddcnogdekaa
open Go.RowKit Go.Lib
set_option linter.unusedSimpArgs false
set_option linter.unusedVariables false

def zeroT8 : AR := ⟨⟨#[]⟩, 0⟩
theorem zeros8 (n : Nat) : (madeCells #[.string ⟨#[]⟩, .int .i64 0] (n * 2)).toList = acells (List.replicate n zeroT8) := by
  unfold madeCells
  rw [Array.toList_map, Array.toList_range]
  induction n with
  | zero => rfl
  | succ n ih =>
    rw [show (n + 1) * 2 = n * 2 + 1 + 1 by omega, List.range_succ, List.range_succ, List.map_append, List.map_append, ih, List.replicate_succ', acells_snoc]
    have h0 : (n * 2) % 2 = 0 := by omega
    have h1 : (n * 2 + 1) % 2 = 1 := by omega
    simp [zeroT8, h0, h1]
theorem acells_append8 : ∀ (a b : List AR), acells (a ++ b) = acells a ++ acells b
  | [], b => rfl
  | t :: a, b => by
    have := acells_append8 a b
    show Value.string t.s :: .int .i64 t.n :: acells (a ++ b) = _
    rw [this]; rfl
theorem acells_set8 (a d : List AR) (t u : AR) (k : Nat) (hk : a.length = k) :
    ((acells (a ++ t :: d)).set (k * 2) (.string u.s)).set (k * 2 + 1) (.int .i64 u.n) = acells (a ++ u :: d) := by
  have hl := acells_len a
  rw [acells_append8, acells_append8, hk] at *
  have e : ∀ t, acells (t :: d) = .string t.s :: .int .i64 t.n :: acells d := fun _ => rfl
  have s1 : ∀ (r : List Value) (i j : Nat) (x : Value), j = k * 2 + i → (acells a ++ r).set j x = acells a ++ r.set i x := by
    intro r i j x hj
    rw [List.set_append, if_neg (by omega), hl]
    congr 2
    omega
  rw [e t, e u, s1 _ 0 _ _ (by omega), s1 _ 1 _ _ rfl]
  rfl
theorem drop_cons8 {ts : List AR} {k : Nat} (h : k < ts.length) : ts.drop k = ts[k] :: ts.drop (k + 1) := List.drop_eq_getElem_cons h
theorem own_set8 {w : World} {B n g cap j sz : Nat} {e : TypeId} {xs : List Value} (h : w.ownsRow B e sz (.slice (some ⟨g, 0, Option.none⟩) n cap) n xs) (u : Value) : (w.setCell ⟨g, j, Option.none⟩ u).ownsRow B e sz (.slice (some ⟨g, 0, Option.none⟩) n cap) n (xs.set j u) := by
  refine ⟨by rw [List.length_set]; exact h.1, ?_⟩
  rcases h.2 with ⟨h0, _⟩ | ⟨g', cap', cur, h1, h2, h3, h4, h5, h6, h7⟩
  · cases h0
  · injection h1 with e1 e2 e3
    injection e1 with e1
    injection e1 with e1
    subst e1; subst e3
    exact .inr ⟨g, cap, cur.setIfInBounds j u, rfl, h2, Joins.block_setCell h3 u, h4, h5, by simpa using h6, by rw [Array.toList_setIfInBounds, List.take_set, h7]⟩
theorem grown_set8 {w w1 : World} {g : Nat} (h : w.grownBy w1 (some g)) (j : Nat) (u : Value) : w.grownBy (w1.setCell ⟨g, j, Option.none⟩ u) (some g) :=
  ⟨h.os, h.tape, h.output, by simpa using h.size, fun k hk hne => by rw [Below.heap_setCell _ _ _ _ (fun e => hne (by rw [e]))]; exact h.block k hk hne⟩
theorem grown_below8 {w w1 w2 : World} {r : Option Nat} (h : w.grownBy w1 r) (hb : Below w1.heap.size w1 w2) : w.grownBy w2 r :=
  ⟨hb.os.trans h.os, hb.tape.trans h.tape, hb.output.trans h.output, Nat.le_trans h.size hb.size, fun k hk hne => (hb.block k (Nat.lt_of_lt_of_le hk h.size)).trans (h.block k hk hne)⟩
theorem grown_trans8 {a b c : World} {r : Option Nat} (h : a.grownBy b r) (k : b.grownBy c r) : a.grownBy c r :=
  ⟨k.os.trans h.os, k.tape.trans h.tape, k.output.trans h.output, Nat.le_trans h.size k.size, fun q hq hne => (k.block q (Nat.lt_of_lt_of_le hq h.size) hne).trans (h.block q hq hne)⟩
theorem cells_own8 {w : World} {B n g cap sz : Nat} {e : TypeId} {xs : List Value} (h : w.ownsRow B e sz (.slice (some ⟨g, 0, Option.none⟩) n cap) n xs) {j : Nat} {u : Value} (hu : xs[j]? = some u) : w.cell? ⟨g, j, Option.none⟩ = some u ∧ w.frozen? ⟨g, j, Option.none⟩ = false := by
  have hc := h.cells (g := g) rfl j u hu
  have e1 : (⟨g, 0, Option.none⟩ : Addr).add j = ⟨g, j, Option.none⟩ := by simp [Addr.add]; omega
  rw [e1] at hc
  refine ⟨hc, ?_⟩
  rcases h.2 with ⟨h0, _⟩ | ⟨g', cap', cur, h1, h2, h3, _⟩
  · cases h0
  · injection h1 with e1 e2 e3
    injection e1 with e1
    injection e1 with e1
    subst e1
    simp [World.frozen?, h3]
set_option maxHeartbeats 2000000 in
theorem toTermS_own (ts : List AR) (hn : ts.length ≤ 1048576) (v : Value) (w : World) (hr : AV w 0 v ts) :
    Calls Try.prog 40 #[v] w fun e w' => ∃ v', e = .returned v' ∧ w'.ownsRow w.heap.size 66 2 v' ts.length (acells ts) ∧ Below w.heap.size w w' := by
  obtain ⟨ao, cap, rfl, hr⟩ := hr
  obtain ⟨i0, hi, hz0, hz1, hz2⟩ := info_parts infoIT8
  go_enter Try.func40, Try.ntmps40
  go_wp2_with (refine wpList_make_full _ rfl _ _ 24 rfl w.heap.size 66 i0 _ 2 Try.underlying24 hi hz0 hz1 .i64 .i64 _ _ ts.length rfl rfl rfl rfl ?c1 ?c2 ?c3 ?_)
  case c1 => rw [hz2]; omega
  case c2 => unfold maxLen; omega
  case c3 => exact Nat.le_refl _
  intro w1 hown hgrow
  rw [zeros8] at hown
  have hbw : Below w.heap.size w w1 := (Below.refl _ w).grown hgrow (Nat.le_refl _) (fun k hk => by cases hk)
  have Hown := Lib.hid hown
  clear hown hgrow
  go_wp2
  go_loopw [4] (fun i wr => ∃ k : Nat, k ≤ ts.length ∧ i = .int .i64 k ∧ wr.ownsRow w.heap.size 66 2 (.slice (some ⟨w.heap.size, 0, Option.none⟩) ts.length ts.length) ts.length (acells (ts.take k ++ List.replicate (ts.length - k) zeroT8)) ∧ Below w.heap.size w wr) (fun i _ => ts.length - (RowKit.intOf i).toNat)
  case atStart => exact ⟨0, by omega, rfl, Hown.out, hbw⟩
  case round =>
    obtain ⟨k, hk, rfl, ho, hb⟩ := hrel
    by_cases hlt : k < ts.length
    · have hltI : (k : Int) < (ts.length : Int) := by omega
      obtain ⟨t, ht⟩ : ∃ t, ts[k]? = some t := ⟨ts[k], List.getElem?_eq_getElem hlt⟩
      rcases hr with hr | ⟨g, off, rfl, _, gl, hc⟩
      · subst hr; simp at hlt
      obtain ⟨a0, a1⟩ := hc k t ht
      have A0 := (hb.cell (p := ⟨g, off + k * 2, Option.none⟩) gl).trans a0
      have A1 := (hb.cell (p := ⟨g, off + k * 2 + 1, Option.none⟩) gl).trans a1
      have htl : (ts.take k).length = k := by rw [List.length_take]; omega
      rw [show ts.length - k = (ts.length - (k + 1)) + 1 by omega, List.replicate_succ] at ho
      have hget := acells_get (ts.take k ++ zeroT8 :: List.replicate (ts.length - (k + 1)) zeroT8) k zeroT8 (by rw [List.getElem?_append_right (by omega), htl]; simp)
      have Htk : Hid (ts.take (k + 1) = ts.take k ++ [t]) := take_snocA ht
      clear a0 a1 hc ht
      go_wp2_with fail
      refine (toTerm_is t _).mono ?_
      rintro e w2 ⟨rfl, hb2⟩
      have ho2 := own_below8 ho hb2
      have hbw2 := hb.trans (hb2.mono hb.size)
      obtain ⟨c0, f0⟩ := cells_own8 ho2 hget.1
      obtain ⟨c1, f1⟩ := cells_own8 ho2 hget.2
      have ho5 := own_set8 (own_set8 ho2 (j := k * 2) (.string t.s)) (j := k * 2 + 1) (.int .i64 t.n)
      rw [acells_set8 (ts.take k) _ zeroT8 t k htl] at ho5
      have hbw5 := (hbw2.setCell (p := ⟨w.heap.size, k * 2, Option.none⟩) (Nat.le_refl _) (.string t.s)).setCell (p := ⟨w.heap.size, k * 2 + 1, Option.none⟩) (Nat.le_refl _) (.int .i64 t.n)
      clear ho ho2 hb hb2 hbw2 hget A0 A1
      go_wp2
      go_roundw
      case rel => exact ⟨k + 1, by omega, by go_num, by rw [Htk.out, List.append_assoc]; exact ho5, hbw5⟩
      case measure => simp [RowKit.intOf]; omega
    · have hkk : ts.take k = ts := List.take_of_length_le (by omega)
      have hz : ts.length - k = 0 := by omega
      rw [hkk, hz, List.replicate_zero, List.append_nil] at ho
      go_wp2
      go_ret
      exact ⟨_, rfl, ho, hb⟩
set_option maxHeartbeats 2000000 in
theorem toAff_own (c : Int) (ts : List AR) (hn : ts.length ≤ 1048576) (v : Value) (w : World) (hr : AV w 0 v ts) :
    Calls Try.prog 15 #[.agg #[.int .i64 c, v]] w fun e w' => ∃ v', e = .returned (.agg #[.int .i64 c, v']) ∧ w'.ownsRow w.heap.size 66 2 v' ts.length (acells ts) ∧ Below w.heap.size w w' := by
  have HR := Lib.hid hr
  obtain ⟨a1, c1, rfl⟩ := hr.shape
  clear hr
  go_enter Try.func15, Try.ntmps15
  go_wp2_with fail
  have hb3 := ((alloc_below w (.cells #[.int .i64 c, .slice a1 ts.length c1] 39)).alloc (by simp) (.cells #[.int .i64 0, .slice Option.none 0 0] 26)).alloc (by simp; omega) (.cells #[.int .i64 c, .slice Option.none 0 0] 26)
  obtain ⟨q0, q1, q2⟩ := heap3 w (.cells #[.int .i64 c, .slice a1 ts.length c1] 39) (.cells #[.int .i64 0, .slice Option.none 0 0] 26) (.cells #[.int .i64 c, .slice Option.none 0 0] 26)
  refine (toTermS_own ts hn _ _ (HR.out.later hb3)).mono ?_
  rintro e w1 ⟨ua, rfl, hua, hb1⟩
  obtain ⟨x1, y1, rfl⟩ := ownShape hua
  have r1 := (hb1.block _ (by simp)).trans q1
  have r2 := (hb1.block _ (by simp)).trans q2
  have B1 := hb3.trans (hb1.mono hb3.size)
  have hs1 := hb1.size
  simp only [World.size_alloc] at hs1 hua
  have B2 := ((B1.setCell (p := ⟨w.heap.size + 2, 1, Option.none⟩) (by simp) (.slice x1 ts.length y1)).setCell (p := ⟨w.heap.size + 1, 0, Option.none⟩) (by simp) (.int .i64 c)).setCell (p := ⟨w.heap.size + 1, 1, Option.none⟩) (by simp) (.slice x1 ts.length y1)
  obtain ⟨⟨g0, g1⟩, f0, f1⟩ := blk2 r2
  obtain ⟨⟨e0, e1⟩, k0, k1⟩ := blk2 r1
  have HA := Lib.hid hua
  have HB := Lib.hid B2
  have HS := Lib.hid hs1
  clear hb1 hb3 hua B1 B2 q0 q1 q2 r1 r2 hs1
  go_wp2
  refine bodyPost_ret (v := .agg #[.int .i64 c, .slice x1 ts.length y1]) (by simp [results, Try.results15, go_sem, e0, e1]) rfl ⟨_, rfl, ?_, HB.out⟩
  have hs3 := HS.out
  exact ownMono8 (B := w.heap.size + 1 + 1 + 1) (by omega) (own_later8 HA.out fun g _ hg _ => by
    have h1 : g ≠ w.heap.size + 1 := by omega
    have h2 : g ≠ w.heap.size + 2 := by omega
    exact ((Below.heap_setCell _ _ _ _ h1).trans (Below.heap_setCell _ _ _ _ h1)).trans (Below.heap_setCell _ _ _ _ h2))
theorem ret_int8 {a b : Int} (h : a = b) : Ending.returned (.int .i64 a) = .returned (.int .i64 b) := by rw [h]
/-- The marks that are laid from m on. -/
def marks8 (m : Nat) : Nat → List AR
  | 0 => []
  | n + 1 => marks8 m n ++ [⟨⟨(mtext (m + 2 * n)).toArray⟩, (m : Int) + 2 * (n : Int) + 1⟩]
theorem marks8_len (m n : Nat) : (marks8 m n).length = n := by
  induction n with
  | zero => rfl
  | succ n ih => simp [marks8, ih]
theorem marks8_get (m n k : Nat) (h : k < n) : (marks8 m n)[k]? = some ⟨⟨(mtext (m + 2 * k)).toArray⟩, (m : Int) + 2 * (k : Int) + 1⟩ := by
  induction n with
  | zero => omega
  | succ n ih =>
    rw [marks8]
    by_cases e : k = n
    · subst e
      rw [List.getElem?_append_right (by rw [marks8_len]; exact Nat.le_refl _), marks8_len]; simp
    · rw [List.getElem?_append_left (by rw [marks8_len]; omega)]
      exact ih (by omega)
end Go.Proofs.Ytjdpddcnogdekaa
namespace Go.Proofs.Ytjdpddcnogdekaa
open Go.ChangeShapes Go.WideShapes Go.ChangeAt Go.RowKit
section
variable {H : Type} {enc : TypeId × Value → H} {W : World} {sp : Nat → Bool} {held : Bool}
theorem build_arrsB {b o len : Nat} (each : ∀ i, i < len → ∃ t : AR, (t.s.size ≤ 9223372036854775807 ∧ (-9223372036854775808 ≤ t.n ∧ t.n ≤ 9223372036854775807)) ∧ W.cell? ⟨b, o + i * 2, Option.none⟩ = some (.string t.s) ∧ W.cell? ⟨b, o + i * 2 + 1, Option.none⟩ = some (.int .i64 t.n)) :
    ∀ d, d ≤ len → ∃ R : List AR, R.length = d ∧ (∀ t ∈ R, (t.s.size ≤ 9223372036854775807 ∧ (-9223372036854775808 ≤ t.n ∧ t.n ≤ 9223372036854775807))) ∧ ∀ i t, R[i]? = some t → W.cell? ⟨b, o + i * 2, Option.none⟩ = some (.string t.s) ∧ W.cell? ⟨b, o + i * 2 + 1, Option.none⟩ = some (.int .i64 t.n)
  | 0, _ => ⟨[], rfl, fun _ h => by simp at h, fun i t h => by simp at h⟩
  | d + 1, hd => by
    obtain ⟨R, h1, h2, h3⟩ := build_arrsB each d (by omega)
    obtain ⟨t, k, c0, c1⟩ := each d (by omega)
    refine ⟨R ++ [t], by simp [h1], fun u hu => ?_, fun i u hu => ?_⟩
    · rcases List.mem_append.1 hu with hu | hu
      · exact h2 u hu
      · simp only [List.mem_cons, List.not_mem_nil, or_false] at hu; subst hu; exact k
    · rcases Nat.lt_or_ge i R.length with hi | hi
      · rw [List.getElem?_append_left hi] at hu; exact h3 i u hu
      · rw [List.getElem?_append_right hi] at hu
        have hi2 : i = d := by have := (List.getElem?_eq_some_iff.1 hu).1; simp at this; omega
        subst hi2
        rw [h1, Nat.sub_self] at hu
        simp at hu; subst hu; exact ⟨c0, c1⟩
set_option maxRecDepth 100000 in
theorem open_termB {fuel : Nat} {cs : List Value} {y : DataW H × List MemPlace} (h : DataW.trod enc Try.prog W 0 sp held fuel 95 cs = some y) : ∃ t : AR, cs = [.string t.s, .int .i64 t.n] ∧ t.s.size ≤ 9223372036854775807 ∧ (-9223372036854775808 ≤ t.n ∧ t.n ≤ 9223372036854775807) := by
  obtain ⟨xs, m, hm, _, hlen, hxl, hf⟩ := DataW.trod_struct Try.underlying95 h
  rw [cT8] at hlen
  match xs, hxl, cs, hlen with
  | [y0, y1], _, [v0, v1], _ =>
    have g0 := hf 0 _ rfl
    have g1 := hf 1 _ rfl
    simp [cI, cT] at g0 g1
    obtain ⟨s, e0, _, hs⟩ := DataW.trod_string Try.underlying9 g0
    obtain ⟨n, e1, _, hn⟩ := DataW.trod_int Try.underlying3 g1
    injection e0 with e0; injection e1 with e1
    subst e0; subst e1
    exact ⟨⟨s, n⟩, rfl, by unfold maxLen at hs; show s.size ≤ _; omega, bounds_i64 hn⟩
theorem open_termsB {fuel : Nat} {cs : List Value} {x : DataW H × List MemPlace} (h : DataW.trod enc Try.prog W 0 sp held fuel 37 cs = some x) : ∃ (v : Value) (ts : List AR), cs = [v] ∧ (∀ t ∈ ts, t.s.size ≤ 9223372036854775807 ∧ (-9223372036854775808 ≤ t.n ∧ t.n ≤ 9223372036854775807)) ∧ ts.length ≤ 9223372036854775807 ∧ AV W 0 v ts := by
  rcases DataW.trod_slice Try.underlying37 h with ⟨rfl, _⟩ | ⟨a, len, cap, elems, rest, n, hn, rfl, _, _, hl, hmx, hlen, hel, _, _⟩
  · exact ⟨_, [], rfl, fun _ h => by simp at h, by simp, _, _, rfl, .inl rfl⟩
  · rw [cT8] at hel
    have each : ∀ i, i < len → ∃ (cs' : List Value) (y : DataW H × List MemPlace), W.cells? 0 (a.add (i * 2)) 2 = some cs' ∧ DataW.trod enc Try.prog W 0 sp held n 95 cs' = some y := fun i hi => by
      have h1 := hel i hi
      rw [List.getElem?_eq_getElem (by omega), Option.bind_eq_some_iff] at h1
      obtain ⟨cs', h2, h3⟩ := h1
      exact ⟨cs', _, h2, h3⟩
    rcases Nat.eq_zero_or_pos len with h0 | h0
    · subst h0; exact ⟨_, [], rfl, fun _ h => by simp at h, by simp, _, _, rfl, .inl rfl⟩
    · have each2 : ∀ i, i < len → ∃ t : AR, (t.s.size ≤ 9223372036854775807 ∧ (-9223372036854775808 ≤ t.n ∧ t.n ≤ 9223372036854775807)) ∧ ∀ j u, [Value.string t.s, .int .i64 t.n][j]? = some u → W.cell? ((a.add (i * 2)).add j) = some u := fun i hi => by
        obtain ⟨cs', y, h1, h2⟩ := each i hi
        obtain ⟨_, hc, hcell⟩ := World.cells?_some h1
        obtain ⟨t, rfl, k1, k1b⟩ := open_termB h2
        refine ⟨t, ⟨k1, k1b⟩, fun j u hj => ?_⟩
        have hj4 : j < 2 := by have := (List.getElem?_eq_some_iff.1 hj).1; simpa using this
        rw [hcell j hj4]; exact hj
      obtain ⟨b, off, spot⟩ := a
      have hsp : spot = Option.none := by
        obtain ⟨x, _, hc⟩ := each2 0 h0
        have := World.cell?_spot (hc 0 _ rfl)
        simpa [Addr.add] using this
      subst hsp
      have e : ∀ i j, ((⟨b, off, Option.none⟩ : Addr).add i).add j = ⟨b, off + i + j, Option.none⟩ := fun i j => by rw [add_plain, add_plain]
      obtain ⟨R, r1, r2, r3⟩ := build_arrsB (W := W) (b := b) (o := off) (len := len) (fun i hi => by
        obtain ⟨t, k1, hc⟩ := each2 i hi
        have c0 := hc 0 _ rfl; have c1 := hc 1 _ rfl
        rw [e] at c0 c1
        exact ⟨t, k1, c0, c1⟩) len (Nat.le_refl _)
      have hlt : b < W.heap.size := by
        obtain ⟨t, _, hc⟩ := each2 0 h0
        have := hc 0 _ rfl
        rw [e] at this
        exact lt_of_cellA this
      refine ⟨_, R, rfl, r2, by unfold maxLen at hmx; omega, _, cap, by rw [r1], .inr ⟨b, off, rfl, Nat.zero_le _, hlt, r3⟩⟩
set_option maxRecDepth 100000 in
theorem open_affB {fuel : Nat} {cs : List Value} {y : DataW H × List MemPlace} (h : DataW.trod enc Try.prog W 0 sp held fuel 39 cs = some y) :
    ∃ (c : Int) (va : Value) (ts : List AR), cs = [.int .i64 c, va] ∧ (-9223372036854775808 ≤ c ∧ c ≤ 9223372036854775807) ∧ (∀ t ∈ ts, t.s.size ≤ 9223372036854775807 ∧ (-9223372036854775808 ≤ t.n ∧ t.n ≤ 9223372036854775807)) ∧ ts.length ≤ 9223372036854775807 ∧ AV W 0 va ts := by
  obtain ⟨xs, m, hm, _, hlen, hxl, hf⟩ := DataW.trod_struct Try.underlying39 h
  rw [cA8] at hlen
  match xs, hxl, cs, hlen with
  | [y0, y1], _, [v0, v1], _ =>
    have g0 := hf 0 _ rfl
    have g1 := hf 1 _ rfl
    simp [cI, cTs8] at g0 g1
    obtain ⟨n, e0, _, hn⟩ := DataW.trod_int Try.underlying3 g0
    obtain ⟨va, ts, e1, k1, k2, k3⟩ := open_termsB g1
    injection e0 with e0; injection e1 with e1
    subst e0; subst e1
    exact ⟨n, v1, ts, rfl, bounds_i64 hn, k1, k2, k3⟩
end
end Go.Proofs.Ytjdpddcnogdekaa
/-
  l8Names of the specification: the names of both sums.
-/
namespace Go.Proofs.Ytjdpddcnogdekaa
open Go.RowKit Go.Lib
set_option linter.unusedSimpArgs false
set_option linter.unusedVariables false

def puts8 (ns : List ByteArray) (l : List AR) : List ByteArray := l.foldl (fun ns t => putR t.s false ns) ns
theorem puts8_take (ns : List ByteArray) {l : List AR} {k : Nat} {t : AR} (h : l[k]? = some t) : puts8 ns (l.take (k + 1)) = putR t.s false (puts8 ns (l.take k)) := by
  rw [take_snocA h, puts8, List.foldl_append]; rfl
theorem puts8_len : ∀ (l : List AR) (ns : List ByteArray), (puts8 ns l).length ≤ ns.length + l.length
  | [], ns => by simp [puts8]
  | t :: l, ns => by
    have h1 := puts8_len l (putR t.s false ns)
    have h2 := putR_len t.s false ns
    have e : puts8 ns (t :: l) = puts8 (putR t.s false ns) l := rfl
    rw [e]; simp only [List.length_cons]; omega
theorem puts8_asc : ∀ (l : List AR) (ns : List ByteArray), Asc ns → Asc (puts8 ns l) ∧ ∀ b, b ∈ puts8 ns l ↔ ((∃ t ∈ l, t.s = b) ∨ b ∈ ns)
  | [], ns, h => ⟨h, fun b => by simp [puts8]⟩
  | t :: l, ns, h => by
    obtain ⟨a1, a2⟩ := asc_put t.s ns h
    obtain ⟨b1, b2⟩ := puts8_asc l (putR t.s false ns) a1
    refine ⟨b1, fun b => ?_⟩
    have e : puts8 ns (t :: l) = puts8 (putR t.s false ns) l := rfl
    rw [e, b2, a2]
    constructor
    · rintro (⟨x, hx, rfl⟩ | rfl | hb)
      · exact .inl ⟨x, by simp [hx], rfl⟩
      · exact .inl ⟨t, by simp, rfl⟩
      · exact .inr hb
    · rintro (⟨x, hx, rfl⟩ | hb)
      · rcases List.mem_cons.1 hx with rfl | hx
        · exact .inr (.inl rfl)
        · exact .inl ⟨x, hx, rfl⟩
      · exact .inr (.inr hb)
end Go.Proofs.Ytjdpddcnogdekaa
