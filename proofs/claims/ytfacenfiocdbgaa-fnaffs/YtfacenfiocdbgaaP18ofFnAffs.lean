/-
  Texts in one: TermMark, AffNames.
-/
import Derived.Test.YtfacenfiocdbgaaP08ofFnAffs
import Derived.Test.YtfacenfiocdbgaaP17ofFnAffs
import Derived.Test.YtfacenfiocdbgaaP13ofFnAffs
/-
  Rows of terms copied so that they may be written over; marks laid over them and found again; the same of sums. Sums that came in, with the bounds of their numbers.
-/
namespace Go.Proofs.Ytfacenfiocdbgaa
open Go.RowKit Go.Lib
set_option linter.unusedSimpArgs false
set_option linter.unusedVariables false

def zeroT8 : AR := ⟨⟨#[]⟩, 0⟩
theorem zeros8 (n : Nat) : (madeCells #[.string ⟨#[]⟩, .int .i64 0] (n * 2)).toList = acells (List.replicate n zeroT8) := by
  unfold madeCells
  rw [Array.toList_map, Array.toList_range]
  induction n with
  | zero => rfl
  | succ n ih =>
    rw [show (n + 1) * 2 = n * 2 + 1 + 1 by omega, List.range_succ, List.range_succ, List.map_append, List.map_append, ih, List.replicate_succ', acells_snoc]
    have h0 : (n * 2) % 2 = 0 := by omega
    have h1 : (n * 2 + 1) % 2 = 1 := by omega
    simp [zeroT8, h0, h1]
theorem acells_append8 : ∀ (a b : List AR), acells (a ++ b) = acells a ++ acells b
  | [], b => rfl
  | t :: a, b => by
    have := acells_append8 a b
    show Value.string t.s :: .int .i64 t.n :: acells (a ++ b) = _
    rw [this]; rfl
theorem acells_set8 (a d : List AR) (t u : AR) (k : Nat) (hk : a.length = k) :
    ((acells (a ++ t :: d)).set (k * 2) (.string u.s)).set (k * 2 + 1) (.int .i64 u.n) = acells (a ++ u :: d) := by
  have hl := acells_len a
  rw [acells_append8, acells_append8, hk] at *
  have e : ∀ t, acells (t :: d) = .string t.s :: .int .i64 t.n :: acells d := fun _ => rfl
  have s1 : ∀ (r : List Value) (i j : Nat) (x : Value), j = k * 2 + i → (acells a ++ r).set j x = acells a ++ r.set i x := by
    intro r i j x hj
    rw [List.set_append, if_neg (by omega), hl]
    congr 2
    omega
  rw [e t, e u, s1 _ 0 _ _ (by omega), s1 _ 1 _ _ rfl]
  rfl
theorem drop_cons8 {ts : List AR} {k : Nat} (h : k < ts.length) : ts.drop k = ts[k] :: ts.drop (k + 1) := List.drop_eq_getElem_cons h
theorem own_set8 {w : World} {B n g cap j sz : Nat} {e : TypeId} {xs : List Value} (h : w.ownsRow B e sz (.slice (some ⟨g, 0, Option.none⟩) n cap) n xs) (u : Value) : (w.setCell ⟨g, j, Option.none⟩ u).ownsRow B e sz (.slice (some ⟨g, 0, Option.none⟩) n cap) n (xs.set j u) := by
  refine ⟨by rw [List.length_set]; exact h.1, ?_⟩
  rcases h.2 with ⟨h0, _⟩ | ⟨g', cap', cur, h1, h2, h3, h4, h5, h6, h7⟩
  · cases h0
  · injection h1 with e1 e2 e3
    injection e1 with e1
    injection e1 with e1
    subst e1; subst e3
    exact .inr ⟨g, cap, cur.setIfInBounds j u, rfl, h2, Joins.block_setCell h3 u, h4, h5, by simpa using h6, by rw [Array.toList_setIfInBounds, List.take_set, h7]⟩
theorem grown_set8 {w w1 : World} {g : Nat} (h : w.grownBy w1 (some g)) (j : Nat) (u : Value) : w.grownBy (w1.setCell ⟨g, j, Option.none⟩ u) (some g) :=
  ⟨h.os, h.tape, h.output, by simpa using h.size, fun k hk hne => by rw [Below.heap_setCell _ _ _ _ (fun e => hne (by rw [e]))]; exact h.block k hk hne⟩
theorem grown_below8 {w w1 w2 : World} {r : Option Nat} (h : w.grownBy w1 r) (hb : Below w1.heap.size w1 w2) : w.grownBy w2 r :=
  ⟨hb.os.trans h.os, hb.tape.trans h.tape, hb.output.trans h.output, Nat.le_trans h.size hb.size, fun k hk hne => (hb.block k (Nat.lt_of_lt_of_le hk h.size)).trans (h.block k hk hne)⟩
theorem grown_trans8 {a b c : World} {r : Option Nat} (h : a.grownBy b r) (k : b.grownBy c r) : a.grownBy c r :=
  ⟨k.os.trans h.os, k.tape.trans h.tape, k.output.trans h.output, Nat.le_trans h.size k.size, fun q hq hne => (k.block q (Nat.lt_of_lt_of_le hq h.size) hne).trans (h.block q hq hne)⟩
theorem cells_own8 {w : World} {B n g cap sz : Nat} {e : TypeId} {xs : List Value} (h : w.ownsRow B e sz (.slice (some ⟨g, 0, Option.none⟩) n cap) n xs) {j : Nat} {u : Value} (hu : xs[j]? = some u) : w.cell? ⟨g, j, Option.none⟩ = some u ∧ w.frozen? ⟨g, j, Option.none⟩ = false := by
  have hc := h.cells (g := g) rfl j u hu
  have e1 : (⟨g, 0, Option.none⟩ : Addr).add j = ⟨g, j, Option.none⟩ := by simp [Addr.add]; omega
  rw [e1] at hc
  refine ⟨hc, ?_⟩
  rcases h.2 with ⟨h0, _⟩ | ⟨g', cap', cur, h1, h2, h3, _⟩
  · cases h0
  · injection h1 with e1 e2 e3
    injection e1 with e1
    injection e1 with e1
    subst e1
    simp [World.frozen?, h3]
set_option maxHeartbeats 2000000 in
theorem toTermS_own (ts : List AR) (hn : ts.length ≤ 1048576) (v : Value) (w : World) (hr : AV w 0 v ts) :
    Calls Try.prog 45 #[v] w fun e w' => ∃ v', e = .returned v' ∧ w'.ownsRow w.heap.size 59 2 v' ts.length (acells ts) ∧ Below w.heap.size w w' := by
  obtain ⟨ao, cap, rfl, hr⟩ := hr
  obtain ⟨i0, hi, hz0, hz1, hz2⟩ := info_parts infoIT8
  go_enter Try.func45, Try.ntmps45
  go_wp2_with (refine wpList_make_full _ rfl _ _ 24 rfl w.heap.size 59 i0 _ 2 Try.underlying24 hi hz0 hz1 .i64 .i64 _ _ ts.length rfl rfl rfl rfl ?c1 ?c2 ?c3 ?_)
  case c1 => rw [hz2]; omega
  case c2 => unfold maxLen; omega
  case c3 => exact Nat.le_refl _
  intro w1 hown hgrow
  rw [zeros8] at hown
  have hbw : Below w.heap.size w w1 := (Below.refl _ w).grown hgrow (Nat.le_refl _) (fun k hk => by cases hk)
  have Hown := Lib.hid hown
  clear hown hgrow
  go_wp2
  go_loopw [4] (fun i wr => ∃ k : Nat, k ≤ ts.length ∧ i = .int .i64 k ∧ wr.ownsRow w.heap.size 59 2 (.slice (some ⟨w.heap.size, 0, Option.none⟩) ts.length ts.length) ts.length (acells (ts.take k ++ List.replicate (ts.length - k) zeroT8)) ∧ Below w.heap.size w wr) (fun i _ => ts.length - (RowKit.intOf i).toNat)
  case atStart => exact ⟨0, by omega, rfl, Hown.out, hbw⟩
  case round =>
    obtain ⟨k, hk, rfl, ho, hb⟩ := hrel
    by_cases hlt : k < ts.length
    · have hltI : (k : Int) < (ts.length : Int) := by omega
      obtain ⟨t, ht⟩ : ∃ t, ts[k]? = some t := ⟨ts[k], List.getElem?_eq_getElem hlt⟩
      rcases hr with hr | ⟨g, off, rfl, _, gl, hc⟩
      · subst hr; simp at hlt
      obtain ⟨a0, a1⟩ := hc k t ht
      have A0 := (hb.cell (p := ⟨g, off + k * 2, Option.none⟩) gl).trans a0
      have A1 := (hb.cell (p := ⟨g, off + k * 2 + 1, Option.none⟩) gl).trans a1
      have htl : (ts.take k).length = k := by rw [List.length_take]; omega
      rw [show ts.length - k = (ts.length - (k + 1)) + 1 by omega, List.replicate_succ] at ho
      have hget := acells_get (ts.take k ++ zeroT8 :: List.replicate (ts.length - (k + 1)) zeroT8) k zeroT8 (by rw [List.getElem?_append_right (by omega), htl]; simp)
      have Htk : Hid (ts.take (k + 1) = ts.take k ++ [t]) := take_snocA ht
      clear a0 a1 hc ht
      go_wp2_with fail
      refine (toTerm_is t _).mono ?_
      rintro e w2 ⟨rfl, hb2⟩
      have ho2 := own_below8 ho hb2
      have hbw2 := hb.trans (hb2.mono hb.size)
      obtain ⟨c0, f0⟩ := cells_own8 ho2 hget.1
      obtain ⟨c1, f1⟩ := cells_own8 ho2 hget.2
      have ho5 := own_set8 (own_set8 ho2 (j := k * 2) (.string t.s)) (j := k * 2 + 1) (.int .i64 t.n)
      rw [acells_set8 (ts.take k) _ zeroT8 t k htl] at ho5
      have hbw5 := (hbw2.setCell (p := ⟨w.heap.size, k * 2, Option.none⟩) (Nat.le_refl _) (.string t.s)).setCell (p := ⟨w.heap.size, k * 2 + 1, Option.none⟩) (Nat.le_refl _) (.int .i64 t.n)
      clear ho ho2 hb hb2 hbw2 hget A0 A1
      go_wp2
      go_roundw
      case rel => exact ⟨k + 1, by omega, by go_num, by rw [Htk.out, List.append_assoc]; exact ho5, hbw5⟩
      case measure => simp [RowKit.intOf]; omega
    · have hkk : ts.take k = ts := List.take_of_length_le (by omega)
      have hz : ts.length - k = 0 := by omega
      rw [hkk, hz, List.replicate_zero, List.append_nil] at ho
      go_wp2
      go_ret
      exact ⟨_, rfl, ho, hb⟩
set_option maxHeartbeats 2000000 in
theorem toAff_own (c : Int) (ts : List AR) (hn : ts.length ≤ 1048576) (v : Value) (w : World) (hr : AV w 0 v ts) :
    Calls Try.prog 25 #[.agg #[.int .i64 c, v]] w fun e w' => ∃ v', e = .returned (.agg #[.int .i64 c, v']) ∧ w'.ownsRow w.heap.size 59 2 v' ts.length (acells ts) ∧ Below w.heap.size w w' := by
  have HR := Lib.hid hr
  obtain ⟨a1, c1, rfl⟩ := hr.shape
  clear hr
  go_enter Try.func25, Try.ntmps25
  go_wp2_with fail
  have hb3 := ((alloc_below w (.cells #[.int .i64 c, .slice a1 ts.length c1] 46)).alloc (by simp) (.cells #[.int .i64 0, .slice Option.none 0 0] 26)).alloc (by simp; omega) (.cells #[.int .i64 c, .slice Option.none 0 0] 26)
  obtain ⟨q0, q1, q2⟩ := heap3 w (.cells #[.int .i64 c, .slice a1 ts.length c1] 46) (.cells #[.int .i64 0, .slice Option.none 0 0] 26) (.cells #[.int .i64 c, .slice Option.none 0 0] 26)
  refine (toTermS_own ts hn _ _ (HR.out.later hb3)).mono ?_
  rintro e w1 ⟨ua, rfl, hua, hb1⟩
  obtain ⟨x1, y1, rfl⟩ := ownShape hua
  have r1 := (hb1.block _ (by simp)).trans q1
  have r2 := (hb1.block _ (by simp)).trans q2
  have B1 := hb3.trans (hb1.mono hb3.size)
  have hs1 := hb1.size
  simp only [World.size_alloc] at hs1 hua
  have B2 := ((B1.setCell (p := ⟨w.heap.size + 2, 1, Option.none⟩) (by simp) (.slice x1 ts.length y1)).setCell (p := ⟨w.heap.size + 1, 0, Option.none⟩) (by simp) (.int .i64 c)).setCell (p := ⟨w.heap.size + 1, 1, Option.none⟩) (by simp) (.slice x1 ts.length y1)
  obtain ⟨⟨g0, g1⟩, f0, f1⟩ := blk2 r2
  obtain ⟨⟨e0, e1⟩, k0, k1⟩ := blk2 r1
  have HA := Lib.hid hua
  have HB := Lib.hid B2
  have HS := Lib.hid hs1
  clear hb1 hb3 hua B1 B2 q0 q1 q2 r1 r2 hs1
  go_wp2
  refine bodyPost_ret (v := .agg #[.int .i64 c, .slice x1 ts.length y1]) (by simp [results, Try.results25, go_sem, e0, e1]) rfl ⟨_, rfl, ?_, HB.out⟩
  have hs3 := HS.out
  exact ownMono8 (B := w.heap.size + 1 + 1 + 1) (by omega) (own_later8 HA.out fun g _ hg _ => by
    have h1 : g ≠ w.heap.size + 1 := by omega
    have h2 : g ≠ w.heap.size + 2 := by omega
    exact ((Below.heap_setCell _ _ _ _ h1).trans (Below.heap_setCell _ _ _ _ h1)).trans (Below.heap_setCell _ _ _ _ h2))
theorem ret_int8 {a b : Int} (h : a = b) : Ending.returned (.int .i64 a) = .returned (.int .i64 b) := by rw [h]
theorem markText8 (x : Int) (n : Nat) (hx : x = (n : Int)) (h1 : 1 ≤ n) (h2 : n ≤ 100000000) (w : World) : Calls Try.prog 64 #[.int .i64 x] w fun e w' => e = .returned (.string ⟨(mtext n).toArray⟩) ∧ Below w.heap.size w w' := by subst hx; exact markText_is n h1 h2 w
/-- The marks that are laid from m on. -/
def marks8 (m : Nat) : Nat → List AR
  | 0 => []
  | n + 1 => marks8 m n ++ [⟨⟨(mtext (m + 2 * n)).toArray⟩, (m : Int) + 2 * (n : Int) + 1⟩]
theorem marks8_len (m n : Nat) : (marks8 m n).length = n := by
  induction n with
  | zero => rfl
  | succ n ih => simp [marks8, ih]
theorem marks8_get (m n k : Nat) (h : k < n) : (marks8 m n)[k]? = some ⟨⟨(mtext (m + 2 * k)).toArray⟩, (m : Int) + 2 * (k : Int) + 1⟩ := by
  induction n with
  | zero => omega
  | succ n ih =>
    rw [marks8]
    by_cases e : k = n
    · subst e
      rw [List.getElem?_append_right (by rw [marks8_len]; exact Nat.le_refl _), marks8_len]; simp
    · rw [List.getElem?_append_left (by rw [marks8_len]; omega)]
      exact ih (by omega)
set_option maxHeartbeats 4000000 in
theorem markTermS_is (ts : List AR) (m : Nat) (hm1 : 1 ≤ m) (hm : m + 2 * ts.length ≤ 10000000) (B : Nat) (v : Value) (w : World) (hown : w.ownsRow B 59 2 v ts.length (acells ts)) :
    Calls Try.prog 47 #[v, .int .i64 (m : Int)] w fun e w' => e = .returned (.int .i64 ((m : Int) + 2 * (ts.length : Int))) ∧ w'.ownsRow B 59 2 v ts.length (acells (marks8 m ts.length)) ∧ w.grownBy w' v.ownBlock := by
  by_cases h0 : ts.length = 0
  · obtain ⟨ao, cap, rfl⟩ := ownShape hown
    obtain rfl : ts = [] := List.length_eq_zero_iff.1 h0
    have Ho := Lib.hid hown
    clear hown h0 hm
    go_enter Try.func47, Try.ntmps47
    go_wp2
    go_loop [1, 5] (fun x i => x = .int .i64 (m : Int) ∧ i = .int .i64 0) (fun _ _ => 0)
    case atStart => exact ⟨rfl, rfl⟩
    case round =>
      obtain ⟨rfl, rfl⟩ := hrel
      go_wp2
      go_ret
      exact ⟨ret_int8 (by simp), Ho.out, World.grownBy.refl _ _⟩
  · obtain ⟨g, cap, rfl⟩ : ∃ g cap, v = .slice (some ⟨g, 0, Option.none⟩) ts.length cap := by
      rcases hown.2 with ⟨_, h1⟩ | ⟨g, cap, cur, h1, _⟩
      · exact absurd h1 h0
      · exact ⟨g, cap, h1⟩
    have Hown := Lib.hid hown
    clear hown
    go_enter Try.func47, Try.ntmps47
    go_wp2
    go_loopw [1, 5] (fun x i wr => ∃ k : Nat, k ≤ ts.length ∧ i = .int .i64 k ∧ x = .int .i64 ((m : Int) + 2 * (k : Int)) ∧ wr.ownsRow B 59 2 (.slice (some ⟨g, 0, Option.none⟩) ts.length cap) ts.length (acells (marks8 m k ++ ts.drop k)) ∧ w.grownBy wr (some g)) (fun _ i _ => ts.length - (RowKit.intOf i).toNat)
    case atStart => exact ⟨0, by omega, rfl, by go_num, Hown.out, World.grownBy.refl _ _⟩
    case round =>
      obtain ⟨k, hk, rfl, rfl, ho, hg⟩ := hrel
      by_cases hlt : k < ts.length
      · have hltI : (k : Int) < (ts.length : Int) := by omega
        rw [drop_cons8 hlt] at ho
        have hget := acells_get (marks8 m k ++ ts[k] :: ts.drop (k + 1)) k ts[k] (by rw [List.getElem?_append_right (by rw [marks8_len]; exact Nat.le_refl _), marks8_len]; simp)
        go_wp2_with fail
        refine (markText8 _ (m + 2 * k) (by omega) (by omega) (by omega) _).mono ?_
        rintro e w1 ⟨rfl, hb1⟩
        have ho1 := own_below8 ho hb1
        have hg1 := grown_below8 hg hb1
        clear ho hg hb1
        obtain ⟨c0, f0⟩ := cells_own8 ho1 hget.1
        obtain ⟨c1, f1⟩ := cells_own8 ho1 hget.2
        have ho3 := own_set8 (own_set8 ho1 (j := k * 2) (.string ⟨(mtext (m + 2 * k)).toArray⟩)) (j := k * 2 + 1) (.int .i64 ((m : Int) + 2 * (k : Int) + 1))
        have hg3 := grown_set8 (grown_set8 hg1 (k * 2) (.string ⟨(mtext (m + 2 * k)).toArray⟩)) (k * 2 + 1) (.int .i64 ((m : Int) + 2 * (k : Int) + 1))
        rw [acells_set8 (marks8 m k) (ts.drop (k + 1)) ts[k] ⟨⟨(mtext (m + 2 * k)).toArray⟩, (m : Int) + 2 * (k : Int) + 1⟩ k (marks8_len m k)] at ho3
        clear ho1 hg1 hget
        go_wp2
        go_roundw
        case rel => exact ⟨k + 1, by omega, by go_num, by go_num, by rw [marks8, List.append_assoc]; exact ho3, hg3⟩
        case measure => simp [RowKit.intOf]; omega
      · obtain rfl : k = ts.length := by omega
        rw [List.drop_length, List.append_nil] at ho
        go_wp2
        go_ret
        exact ⟨rfl, ho, hg⟩
set_option maxHeartbeats 4000000 in
theorem heldTermS_is (n m : Nat) (hm1 : 1 ≤ m) (hm : m + 2 * n ≤ 10000000) (v : Value) (w : World) (hr : AV w 0 v (marks8 m n)) :
    Calls Try.prog 48 #[v, .int .i64 (m : Int)] w fun e w' => e = .returned (.int .i64 ((m : Int) + 2 * (n : Int))) ∧ Below w.heap.size w w' := by
  obtain ⟨ao, cap, rfl, hr⟩ := hr
  rw [marks8_len]
  go_enter Try.func48, Try.ntmps48
  go_wp2
  go_loopw [1, 5] (fun x i wr => ∃ k : Nat, k ≤ n ∧ i = .int .i64 k ∧ x = .int .i64 ((m : Int) + 2 * (k : Int)) ∧ Below w.heap.size w wr) (fun _ i _ => n - (RowKit.intOf i).toNat)
  case atStart => exact ⟨0, by omega, rfl, by go_num, Below.refl _ _⟩
  case round =>
    obtain ⟨k, hk, rfl, rfl, hbw⟩ := hrel
    by_cases hlt : k < n
    · have hltI : (k : Int) < (n : Int) := by omega
      rcases hr with hr | ⟨g, off, rfl, _, gl, hc⟩
      · have := marks8_len m n; rw [hr] at this; simp at this; omega
      obtain ⟨a0, a1⟩ := hc k _ (marks8_get m n k hlt)
      have A0 := (hbw.cell (p := ⟨g, off + k * 2, Option.none⟩) gl).trans a0
      have H1 := Lib.hid a1
      clear a0 a1 hc
      go_wp2_with fail
      go_cut [19] from 6 to 30 (fun x wx => x = .bool false ∧ Below wr.heap.size wr wx)
      case first =>
        go_region_with (go_at_call 64; refine (markText8 _ (m + 2 * k) (by omega) (by omega) (by omega) _).mono ?_; rintro e w1 ⟨rfl, hb1⟩; have A0' := (hb1.cell (p := ⟨g, off + k * 2, Option.none⟩) (Nat.lt_of_lt_of_le gl hbw.size)).trans A0)
        all_goals (try go_wp2_with fail)
        all_goals go_meet
        all_goals exact ⟨by simp, ⟨hb1.os, hb1.tape, hb1.output, hb1.size, hb1.block⟩⟩
      case rest =>
        obtain ⟨rfl, hb1⟩ := hcut
        have hbw2 := hbw.trans (hb1.mono hbw.size)
        have A1 := (hbw2.cell (p := ⟨g, off + k * 2 + 1, Option.none⟩) gl).trans H1.out
        clear A0 hb1
        go_wp2
        go_roundw
        case rel => exact ⟨k + 1, by omega, by go_num, by go_num, hbw2⟩
        case measure => simp [RowKit.intOf]; omega
    · obtain rfl : k = n := by omega
      go_wp2
      go_ret
      exact ⟨rfl, hbw⟩
set_option maxHeartbeats 4000000 in
theorem markAff_is (c : Int) (ts : List AR) (m : Nat) (x : Int) (hx : x = (m : Int)) (hm1 : 1 ≤ m) (hm : m + 2 * ts.length ≤ 10000000) (B : Nat) (v : Value) (w : World) (hown : w.ownsRow B 59 2 v ts.length (acells ts)) :
    Calls Try.prog 27 #[.agg #[.int .i64 c, v], .int .i64 x] w fun e w' => e = .returned (.int .i64 ((m : Int) + 2 * (ts.length : Int))) ∧ w'.ownsRow B 59 2 v ts.length (acells (marks8 m ts.length)) ∧ w.grownBy w' v.ownBlock := by
  subst hx
  obtain ⟨a1, c1, rfl⟩ := ownShape hown
  have ba := alloc_below w (.cells #[.int .i64 c, .slice a1 ts.length c1] 26)
  have G0 : Hid (w.grownBy (w.alloc (.cells #[.int .i64 c, .slice a1 ts.length c1] 26)) (Value.slice a1 ts.length c1).ownBlock) := show World.grownBy _ _ _ from grown_below8 (World.grownBy.refl _ _) ba
  have O0 := Lib.hid (own_below8 hown ba)
  have hh := heap_last w (.cells #[.int .i64 c, .slice a1 ts.length c1] 26)
  clear hown ba
  go_enter Try.func27, Try.ntmps27
  obtain ⟨⟨e0, e1⟩, _⟩ := blk2 hh
  go_wp2_with fail
  refine (markTermS_is ts m hm1 hm B _ _ O0.out).mono ?_
  rintro e w2 ⟨rfl, ho2, hg2⟩
  have R := Lib.hid (And.intro ho2 (grown_trans8 G0.out hg2))
  clear ho2 hg2 e0 e1 hh
  go_wp2
  go_ret
  exact ⟨rfl, R.out.1, R.out.2⟩
set_option maxHeartbeats 4000000 in
theorem heldAff_is (c : Int) (n m : Nat) (x : Int) (hx : x = (m : Int)) (hm1 : 1 ≤ m) (hm : m + 2 * n ≤ 10000000) (v : Value) (w : World) (hr : AV w 0 v (marks8 m n)) :
    Calls Try.prog 28 #[.agg #[.int .i64 c, v], .int .i64 x] w fun e w' => e = .returned (.int .i64 ((m : Int) + 2 * (n : Int))) ∧ Below w.heap.size w w' := by
  subst hx
  have HR := Lib.hid hr
  obtain ⟨a1, c1, rfl⟩ := hr.shape
  have ba := alloc_below w (.cells #[.int .i64 c, .slice a1 (marks8 m n).length c1] 26)
  have BA := Lib.hid ba
  have hh := heap_last w (.cells #[.int .i64 c, .slice a1 (marks8 m n).length c1] 26)
  clear hr ba
  go_enter Try.func28, Try.ntmps28
  obtain ⟨⟨e0, e1⟩, _⟩ := blk2 hh
  go_wp2_with fail
  refine (heldTermS_is n m hm1 hm _ _ (HR.out.later BA.out)).mono ?_
  rintro e w2 ⟨rfl, hb2⟩
  have B2 := Lib.hid (BA.out.trans (hb2.mono BA.out.size))
  have hneg : ¬ (m : Int) + 2 * (n : Int) < 0 := by omega
  clear hb2 e0 e1 hh
  go_wp2
  go_ret
  exact ⟨rfl, B2.out⟩
end Go.Proofs.Ytfacenfiocdbgaa
namespace Go.Proofs.Ytfacenfiocdbgaa
open Go.ChangeShapes Go.WideShapes Go.ChangeAt Go.RowKit
section
variable {H : Type} {enc : TypeId × Value → H} {W : World} {sp : Nat → Bool} {held : Bool}
theorem build_arrsB {b o len : Nat} (each : ∀ i, i < len → ∃ t : AR, (t.s.size ≤ 9223372036854775807 ∧ (-9223372036854775808 ≤ t.n ∧ t.n ≤ 9223372036854775807)) ∧ W.cell? ⟨b, o + i * 2, Option.none⟩ = some (.string t.s) ∧ W.cell? ⟨b, o + i * 2 + 1, Option.none⟩ = some (.int .i64 t.n)) :
    ∀ d, d ≤ len → ∃ R : List AR, R.length = d ∧ (∀ t ∈ R, (t.s.size ≤ 9223372036854775807 ∧ (-9223372036854775808 ≤ t.n ∧ t.n ≤ 9223372036854775807))) ∧ ∀ i t, R[i]? = some t → W.cell? ⟨b, o + i * 2, Option.none⟩ = some (.string t.s) ∧ W.cell? ⟨b, o + i * 2 + 1, Option.none⟩ = some (.int .i64 t.n)
  | 0, _ => ⟨[], rfl, fun _ h => by simp at h, fun i t h => by simp at h⟩
  | d + 1, hd => by
    obtain ⟨R, h1, h2, h3⟩ := build_arrsB each d (by omega)
    obtain ⟨t, k, c0, c1⟩ := each d (by omega)
    refine ⟨R ++ [t], by simp [h1], fun u hu => ?_, fun i u hu => ?_⟩
    · rcases List.mem_append.1 hu with hu | hu
      · exact h2 u hu
      · simp only [List.mem_cons, List.not_mem_nil, or_false] at hu; subst hu; exact k
    · rcases Nat.lt_or_ge i R.length with hi | hi
      · rw [List.getElem?_append_left hi] at hu; exact h3 i u hu
      · rw [List.getElem?_append_right hi] at hu
        have hi2 : i = d := by have := (List.getElem?_eq_some_iff.1 hu).1; simp at this; omega
        subst hi2
        rw [h1, Nat.sub_self] at hu
        simp at hu; subst hu; exact ⟨c0, c1⟩
set_option maxRecDepth 100000 in
theorem open_termB {fuel : Nat} {cs : List Value} {y : DataW H × List MemPlace} (h : DataW.trod enc Try.prog W 0 sp held fuel 86 cs = some y) : ∃ t : AR, cs = [.string t.s, .int .i64 t.n] ∧ t.s.size ≤ 9223372036854775807 ∧ (-9223372036854775808 ≤ t.n ∧ t.n ≤ 9223372036854775807) := by
  obtain ⟨xs, m, hm, _, hlen, hxl, hf⟩ := DataW.trod_struct Try.underlying86 h
  rw [cT8] at hlen
  match xs, hxl, cs, hlen with
  | [y0, y1], _, [v0, v1], _ =>
    have g0 := hf 0 _ rfl
    have g1 := hf 1 _ rfl
    simp [cI, cT] at g0 g1
    obtain ⟨s, e0, _, hs⟩ := DataW.trod_string Try.underlying9 g0
    obtain ⟨n, e1, _, hn⟩ := DataW.trod_int Try.underlying3 g1
    injection e0 with e0; injection e1 with e1
    subst e0; subst e1
    exact ⟨⟨s, n⟩, rfl, by unfold maxLen at hs; show s.size ≤ _; omega, bounds_i64 hn⟩
theorem open_termsB {fuel : Nat} {cs : List Value} {x : DataW H × List MemPlace} (h : DataW.trod enc Try.prog W 0 sp held fuel 44 cs = some x) : ∃ (v : Value) (ts : List AR), cs = [v] ∧ (∀ t ∈ ts, t.s.size ≤ 9223372036854775807 ∧ (-9223372036854775808 ≤ t.n ∧ t.n ≤ 9223372036854775807)) ∧ ts.length ≤ 9223372036854775807 ∧ AV W 0 v ts := by
  rcases DataW.trod_slice Try.underlying44 h with ⟨rfl, _⟩ | ⟨a, len, cap, elems, rest, n, hn, rfl, _, _, hl, hmx, hlen, hel, _, _⟩
  · exact ⟨_, [], rfl, fun _ h => by simp at h, by simp, _, _, rfl, .inl rfl⟩
  · rw [cT8] at hel
    have each : ∀ i, i < len → ∃ (cs' : List Value) (y : DataW H × List MemPlace), W.cells? 0 (a.add (i * 2)) 2 = some cs' ∧ DataW.trod enc Try.prog W 0 sp held n 86 cs' = some y := fun i hi => by
      have h1 := hel i hi
      rw [List.getElem?_eq_getElem (by omega), Option.bind_eq_some_iff] at h1
      obtain ⟨cs', h2, h3⟩ := h1
      exact ⟨cs', _, h2, h3⟩
    rcases Nat.eq_zero_or_pos len with h0 | h0
    · subst h0; exact ⟨_, [], rfl, fun _ h => by simp at h, by simp, _, _, rfl, .inl rfl⟩
    · have each2 : ∀ i, i < len → ∃ t : AR, (t.s.size ≤ 9223372036854775807 ∧ (-9223372036854775808 ≤ t.n ∧ t.n ≤ 9223372036854775807)) ∧ ∀ j u, [Value.string t.s, .int .i64 t.n][j]? = some u → W.cell? ((a.add (i * 2)).add j) = some u := fun i hi => by
        obtain ⟨cs', y, h1, h2⟩ := each i hi
        obtain ⟨_, hc, hcell⟩ := World.cells?_some h1
        obtain ⟨t, rfl, k1, k1b⟩ := open_termB h2
        refine ⟨t, ⟨k1, k1b⟩, fun j u hj => ?_⟩
        have hj4 : j < 2 := by have := (List.getElem?_eq_some_iff.1 hj).1; simpa using this
        rw [hcell j hj4]; exact hj
      obtain ⟨b, off, spot⟩ := a
      have hsp : spot = Option.none := by
        obtain ⟨x, _, hc⟩ := each2 0 h0
        have := World.cell?_spot (hc 0 _ rfl)
        simpa [Addr.add] using this
      subst hsp
      have e : ∀ i j, ((⟨b, off, Option.none⟩ : Addr).add i).add j = ⟨b, off + i + j, Option.none⟩ := fun i j => by rw [add_plain, add_plain]
      obtain ⟨R, r1, r2, r3⟩ := build_arrsB (W := W) (b := b) (o := off) (len := len) (fun i hi => by
        obtain ⟨t, k1, hc⟩ := each2 i hi
        have c0 := hc 0 _ rfl; have c1 := hc 1 _ rfl
        rw [e] at c0 c1
        exact ⟨t, k1, c0, c1⟩) len (Nat.le_refl _)
      have hlt : b < W.heap.size := by
        obtain ⟨t, _, hc⟩ := each2 0 h0
        have := hc 0 _ rfl
        rw [e] at this
        exact lt_of_cellA this
      refine ⟨_, R, rfl, r2, by unfold maxLen at hmx; omega, _, cap, by rw [r1], .inr ⟨b, off, rfl, Nat.zero_le _, hlt, r3⟩⟩
set_option maxRecDepth 100000 in
theorem open_affB {fuel : Nat} {cs : List Value} {y : DataW H × List MemPlace} (h : DataW.trod enc Try.prog W 0 sp held fuel 46 cs = some y) :
    ∃ (c : Int) (va : Value) (ts : List AR), cs = [.int .i64 c, va] ∧ (-9223372036854775808 ≤ c ∧ c ≤ 9223372036854775807) ∧ (∀ t ∈ ts, t.s.size ≤ 9223372036854775807 ∧ (-9223372036854775808 ≤ t.n ∧ t.n ≤ 9223372036854775807)) ∧ ts.length ≤ 9223372036854775807 ∧ AV W 0 va ts := by
  obtain ⟨xs, m, hm, _, hlen, hxl, hf⟩ := DataW.trod_struct Try.underlying46 h
  rw [cA8] at hlen
  match xs, hxl, cs, hlen with
  | [y0, y1], _, [v0, v1], _ =>
    have g0 := hf 0 _ rfl
    have g1 := hf 1 _ rfl
    simp [cI, cTs8] at g0 g1
    obtain ⟨n, e0, _, hn⟩ := DataW.trod_int Try.underlying3 g0
    obtain ⟨va, ts, e1, k1, k2, k3⟩ := open_termsB g1
    injection e0 with e0; injection e1 with e1
    subst e0; subst e1
    exact ⟨n, v1, ts, rfl, bounds_i64 hn, k1, k2, k3⟩
end
end Go.Proofs.Ytfacenfiocdbgaa
/-
  l8Names of the specification: the names of both sums.
-/
namespace Go.Proofs.Ytfacenfiocdbgaa
open Go.RowKit Go.Lib
set_option linter.unusedSimpArgs false
set_option linter.unusedVariables false

def puts8 (ns : List ByteArray) (l : List AR) : List ByteArray := l.foldl (fun ns t => putR t.s false ns) ns
theorem puts8_take (ns : List ByteArray) {l : List AR} {k : Nat} {t : AR} (h : l[k]? = some t) : puts8 ns (l.take (k + 1)) = putR t.s false (puts8 ns (l.take k)) := by
  rw [take_snocA h, puts8, List.foldl_append]; rfl
theorem puts8_len : ∀ (l : List AR) (ns : List ByteArray), (puts8 ns l).length ≤ ns.length + l.length
  | [], ns => by simp [puts8]
  | t :: l, ns => by
    have h1 := puts8_len l (putR t.s false ns)
    have h2 := putR_len t.s false ns
    have e : puts8 ns (t :: l) = puts8 (putR t.s false ns) l := rfl
    rw [e]; simp only [List.length_cons]; omega
theorem puts8_asc : ∀ (l : List AR) (ns : List ByteArray), Asc ns → Asc (puts8 ns l) ∧ ∀ b, b ∈ puts8 ns l ↔ ((∃ t ∈ l, t.s = b) ∨ b ∈ ns)
  | [], ns, h => ⟨h, fun b => by simp [puts8]⟩
  | t :: l, ns, h => by
    obtain ⟨a1, a2⟩ := asc_put t.s ns h
    obtain ⟨b1, b2⟩ := puts8_asc l (putR t.s false ns) a1
    refine ⟨b1, fun b => ?_⟩
    have e : puts8 ns (t :: l) = puts8 (putR t.s false ns) l := rfl
    rw [e, b2, a2]
    constructor
    · rintro (⟨x, hx, rfl⟩ | rfl | hb)
      · exact .inl ⟨x, by simp [hx], rfl⟩
      · exact .inl ⟨t, by simp, rfl⟩
      · exact .inr hb
    · rintro (⟨x, hx, rfl⟩ | hb)
      · rcases List.mem_cons.1 hx with rfl | hx
        · exact .inr (.inl rfl)
        · exact .inl ⟨x, hx, rfl⟩
      · exact .inr (.inr hb)
set_option maxHeartbeats 4000000 in
set_option maxRecDepth 100000 in
theorem l8Names_is (ca cb : Int) (la lb : List AR) (hl : la.length ≤ 4000000) (hm : lb.length ≤ 4000000) (va vb : Value) (w : World) (ha : AV w 0 va la) (hb : AV w 0 vb lb) :
    Calls Try.prog 57 #[.agg #[.int .i64 ca, va], .agg #[.int .i64 cb, vb]] w fun e w' => ∃ v', e = .returned v' ∧ TV w' w.heap.size v' (puts8 (puts8 [] la) lb) ∧ Below w.heap.size w w' := by
  obtain ⟨q0, q1⟩ := heap2t w (.cells #[.int .i64 ca, va] 26) (.cells #[.int .i64 cb, vb] 26)
  have HB2 : Hid (Below w.heap.size w ((w.alloc (.cells #[.int .i64 ca, va] 26)).alloc (.cells #[.int .i64 cb, vb] 26))) := show Below _ _ _ from (alloc_below w _).alloc (by simp) _
  have HA := Lib.hid (And.intro ha hb)
  obtain ⟨a1, c1, rfl⟩ := ha.shape
  obtain ⟨a2, c2, rfl⟩ := hb.shape
  obtain ⟨w2, W2⟩ : ∃ w2, Hid (w2 = (w.alloc (.cells #[.int .i64 ca, .slice a1 la.length c1] 26)).alloc (.cells #[.int .i64 cb, .slice a2 lb.length c2] 26)) := ⟨_, rfl⟩
  rw [← W2.out] at q0 q1 HB2
  have Q := Lib.hid (And.intro q0 q1)
  have hb3 : Below w2.heap.size w2 (w2.alloc (.cells #[] 9)) := alloc_below _ _
  clear ha hb q0 q1
  go_enter Try.func57, Try.ntmps57
  go_wp2
  rw [← W2.out]
  clear W2
  go_loopw [5, 6] (fun z i wr => ∃ (k : Nat) (X : List ByteArray), k ≤ la.length ∧ i = .int .i64 (k : Int) ∧ Hid (X = puts8 [] (la.take k)) ∧ Hid (TV wr w.heap.size z X) ∧ Below w2.heap.size w2 wr) (fun _ i _ => la.length - (RowKit.intOf i).toNat)
  case atStart => exact ⟨0, [], Nat.zero_le _, rfl, rfl, ⟨_, _, rfl, .inl rfl⟩, hb3⟩
  case round =>
    obtain ⟨k, X, hk, rfl, HX, HV, hbr⟩ := hrel
    obtain ⟨⟨d0, d1⟩, _⟩ := blk2 ((hbr.block _ (Array.getElem?_eq_some_iff.1 Q.out.1).1).trans Q.out.1)
    obtain ⟨xa, xc, rfl⟩ := HV.out.shape
    by_cases hlt : k < la.length
    · have hltI : (k : Int) < (la.length : Int) := by omega
      obtain ⟨t, ht⟩ : ∃ t, la[k]? = some t := ⟨la[k], List.getElem?_eq_getElem hlt⟩
      obtain ⟨ao, cap, e, hr⟩ := HA.out.1
      injection e with e1 e2 e3
      subst e1; subst e3
      rcases hr with hr | ⟨g, off, rfl, _, gl, hc⟩
      · subst hr; simp at hlt
      have hbw := HB2.out.trans (hbr.mono HB2.out.size)
      have A0 := (hbw.cell (p := ⟨g, off + k * 2, Option.none⟩) gl).trans (hc k t ht).1
      have HX2 : Hid (putR t.s false X = puts8 [] (la.take (k + 1))) := show _ = _ by rw [HX.out, puts8_take _ ht]
      have HL : Hid (X.length ≤ 10000000) := show _ ≤ _ by have := puts8_len (la.take k) []; rw [HX.out]; simp only [List.length_take, List.length_nil] at this; omega
      clear hc ht hbw
      go_wp2_with fail
      refine (l4Put_is X HL.out t.s _ _ HV.out.low).mono ?_
      rintro e w3 ⟨v3, rfl, hv3, hb3⟩
      have HV3 := Lib.hid (hv3.same (Nat.le_trans HB2.out.size hbr.size) (Keeps.refl _ _) (Nat.le_refl _))
      have hbr2 := hbr.trans (hb3.mono hbr.size)
      obtain ⟨ya, yc, rfl⟩ := hv3.shape
      clear hb3 hbr A0 d0 d1 hv3
      go_wp2
      go_roundw
      case rel => exact ⟨k + 1, _, by omega, by go_num, HX2.out, HV3.out, hbr2⟩
      case measure => simp [RowKit.intOf]; omega
    · have hltI : ¬ (k : Int) < (la.length : Int) := by omega
      have hkk : la.take k = la := List.take_of_length_le (by omega)
      have HX1 : Hid (X = puts8 [] la) := show _ = _ by rw [HX.out, hkk]
      clear d0 d1
      obtain ⟨⟨d0, d1⟩, _⟩ := blk2 ((hbr.block _ (Array.getElem?_eq_some_iff.1 Q.out.1).1).trans Q.out.1)
      have HBR := Lib.hid hbr
      clear hbr
      go_wp2
      clear d0 d1
      go_loopw [5, 7] (fun z i wr => ∃ (k : Nat) (X : List ByteArray), k ≤ lb.length ∧ i = .int .i64 (k : Int) ∧ Hid (X = puts8 (puts8 [] la) (lb.take k)) ∧ Hid (TV wr w.heap.size z X) ∧ Below w2.heap.size w2 wr) (fun _ i _ => lb.length - (RowKit.intOf i).toNat)
      case atStart => exact ⟨0, X, Nat.zero_le _, rfl, HX1.out, HV.out, HBR.out⟩
      case round =>
        obtain ⟨q, Y, hq, rfl, HY, HV2, hbr⟩ := hrel
        obtain ⟨⟨d0, d1⟩, _⟩ := blk2 ((hbr.block _ (Array.getElem?_eq_some_iff.1 Q.out.2).1).trans Q.out.2)
        obtain ⟨xa, xc, rfl⟩ := HV2.out.shape
        by_cases hlt2 : q < lb.length
        · have hltI2 : (q : Int) < (lb.length : Int) := by omega
          obtain ⟨t, ht⟩ : ∃ t, lb[q]? = some t := ⟨lb[q], List.getElem?_eq_getElem hlt2⟩
          obtain ⟨ao, cap, e, hr⟩ := HA.out.2
          injection e with e1 e2 e3
          subst e1; subst e3
          rcases hr with hr | ⟨g, off, rfl, _, gl, hc⟩
          · subst hr; simp at hlt2
          have hbw := HB2.out.trans (hbr.mono HB2.out.size)
          have A0 := (hbw.cell (p := ⟨g, off + q * 2, Option.none⟩) gl).trans (hc q t ht).1
          have HX2 : Hid (putR t.s false Y = puts8 (puts8 [] la) (lb.take (q + 1))) := show _ = _ by rw [HY.out, puts8_take _ ht]
          have HL : Hid (Y.length ≤ 10000000) := show _ ≤ _ by
            have h1 := puts8_len (lb.take q) (puts8 [] la)
            have h2 := puts8_len la []
            rw [HY.out]; simp only [List.length_take, List.length_nil] at h1 h2; omega
          clear hc ht hbw
          go_wp2_with fail
          refine (l4Put_is Y HL.out t.s _ _ HV2.out.low).mono ?_
          rintro e w3 ⟨v3, rfl, hv3, hb3⟩
          have HV3 := Lib.hid (hv3.same (Nat.le_trans HB2.out.size hbr.size) (Keeps.refl _ _) (Nat.le_refl _))
          have hbr2 := hbr.trans (hb3.mono hbr.size)
          obtain ⟨ya, yc, rfl⟩ := hv3.shape
          clear hb3 hbr A0 d0 d1 hv3
          go_wp2
          go_roundw
          case rel => exact ⟨q + 1, _, by omega, by go_num, HX2.out, HV3.out, hbr2⟩
          case measure => simp [RowKit.intOf]; omega
        · have hltI2 : ¬ (q : Int) < (lb.length : Int) := by omega
          have hqq : lb.take q = lb := List.take_of_length_le (by omega)
          have hy : Y = puts8 (puts8 [] la) lb := by rw [HY.out, hqq]
          have HZ0 : ∀ Z, Y = Z → Hid (TV wr w.heap.size (.slice xa Y.length xc) Z) := by rintro _ rfl; exact HV2
          have HZ := HZ0 _ hy
          clear HZ0 hy
          go_wp2
          go_ret
          exact ⟨_, rfl, HZ.out, HB2.out.trans (hbr.mono HB2.out.size)⟩
end Go.Proofs.Ytfacenfiocdbgaa
