/-
  The contracts of what laws.FnExactTokText calls over the signs that came in: szTokS, toTokS.
-/
import Derived.Test.YtoogikibmdjpiaaDoorTokText
import Derived.Test.YtoogikibmdjpiaaDoorTokMark
namespace Go.Proofs.YtoogikibmdjpiaaDoor
open Go.RowKit Go.Lib
set_option linter.unusedSimpArgs false

/-- A slice of signs that came in. -/
def ARow (w : World) (v : Value) (ts : List T) : Prop :=
  ∃ ao cap, v = .slice ao ts.length cap ∧ ts.length ≤ 9223372036854775807 ∧ (ts = [] ∨ ∃ g off, ao = some ⟨g, off, Option.none⟩ ∧ g < w.heap.size ∧ ∀ i t, ts[i]? = some t →
    w.cell? ⟨g, off + i * 3, Option.none⟩ = some (.int .i64 t.k) ∧ w.cell? ⟨g, off + i * 3 + 1, Option.none⟩ = some (.string ⟨t.s.toArray⟩) ∧ w.cell? ⟨g, off + i * 3 + 2, Option.none⟩ = some (.int .i64 t.n))
theorem ARow.later {w w' : World} {v : Value} {ts : List T} (h : ARow w v ts) (hb : Below w.heap.size w w') : ARow w' v ts := by
  obtain ⟨ao, cap, hv, hm, h⟩ := h
  refine ⟨ao, cap, hv, hm, ?_⟩
  rcases h with h | ⟨g, off, h1, h2, h3⟩
  · exact .inl h
  · refine .inr ⟨g, off, h1, Nat.lt_of_lt_of_le h2 hb.size, fun i t hi => ?_⟩
    obtain ⟨a, b, c⟩ := h3 i t hi
    exact ⟨(hb.cell (p := ⟨g, off + i * 3, Option.none⟩) h2).trans a, (hb.cell (p := ⟨g, off + i * 3 + 1, Option.none⟩) h2).trans b, (hb.cell (p := ⟨g, off + i * 3 + 2, Option.none⟩) h2).trans c⟩
/-- How many bytes the texts of these signs have together. -/
def bytesOf : List T → Nat
  | [] => 0
  | t :: ts => t.s.length + bytesOf ts
theorem bytesOf_snoc (ts : List T) (t : T) : bytesOf (ts ++ [t]) = bytesOf ts + t.s.length := by
  induction ts with
  | nil => simp [bytesOf]
  | cons u us ih => simp only [List.cons_append, bytesOf, ih]; omega
set_option maxHeartbeats 1000000 in
theorem szTok_is (t : T) (ht : t.s.length ≤ 9223372036854775807) (left : Int) (h0 : 0 ≤ left) (h1 : left ≤ 1048576) (w : World) :
    Calls Tryd.prog 44 #[.agg #[.int .i64 t.k, .string ⟨t.s.toArray⟩, .int .i64 t.n], .int .i64 left] w fun e w' => e = .returned (.int .i64 (if left < (t.s.length : Int) then -1 else left - t.s.length)) ∧ Below w.heap.size w w' := by
  have hs := sz_text t.s
  by_cases h : left < (t.s.length : Int)
  · have h' : left - (t.s.length : Int) < 0 := by omega
    rw [if_pos h]
    go_enter Tryd.func44, Tryd.ntmps44
    go_wp2
    all_goals first
      | omega
      | (go_ret; exact ⟨rfl, (Below.refl _ w).alloc (Nat.le_refl _) _⟩)
  · have h' : ¬ left - (t.s.length : Int) < 0 := by omega
    rw [if_neg h]
    go_enter Tryd.func44, Tryd.ntmps44
    go_wp2
    all_goals first
      | omega
      | (go_ret; exact ⟨rfl, (Below.refl _ w).alloc (Nat.le_refl _) _⟩)
set_option maxHeartbeats 2000000 in
theorem szTokS_is (ts : List T) (hts : ∀ t ∈ ts, t.s.length ≤ 9223372036854775807) (v : Value) (w : World) (hr : ARow w v ts) :
    Calls Tryd.prog 20 #[v, .int .i64 1048576] w fun e w' => ∃ r : Int, e = .returned (.int .i64 r) ∧ -1 ≤ r ∧ r ≤ 1048576 ∧ (0 ≤ r → ts.length + bytesOf ts ≤ 1048576) ∧ Below w.heap.size w w' := by
  obtain ⟨ao, cap, rfl, hm, hr⟩ := hr
  have Hts := Lib.hid hts
  clear hts
  by_cases hbig : 1048576 < ts.length
  · have hb' : (1048576 : Int) - (ts.length : Int) < 0 := by omega
    go_enter Tryd.func20, Tryd.ntmps20
    go_wp2
    all_goals first
      | omega
      | (go_ret; exact ⟨_, rfl, by omega, by omega, fun h => absurd h (by omega), Below.refl _ _⟩)
  · have hb' : ¬ (1048576 : Int) - (ts.length : Int) < 0 := by omega
    go_enter Tryd.func20, Tryd.ntmps20
    go_wp2
    go_loopw [1, 5] (fun x i wr => ∃ k left : Nat, k ≤ ts.length ∧ i = .int .i64 k ∧ x = .int .i64 (left : Int) ∧ Hid (left + ts.length + bytesOf (ts.take k) = 1048576) ∧ Below w.heap.size w wr) (fun _ i _ => ts.length - (RowKit.intOf i).toNat)
    case atStart => exact ⟨0, 1048576 - ts.length, by omega, rfl, val_int (by omega), (by show 1048576 - ts.length + ts.length + 0 = 1048576; omega), Below.refl _ _⟩
    case round =>
      obtain ⟨k, left, hk, rfl, rfl, hl, hbw⟩ := hrel
      have hlb := hl.out
      by_cases hlt : k < ts.length
      · have hltI : (k : Int) < (ts.length : Int) := by omega
        obtain ⟨t, ht⟩ : ∃ t, ts[k]? = some t := ⟨ts[k], List.getElem?_eq_getElem hlt⟩
        have htl := Hts.out t (List.mem_of_getElem? ht)
        rcases hr with hr | ⟨g, off, rfl, gl, hc⟩
        · subst hr; simp at hlt
        obtain ⟨a0, a1, a2⟩ := hc k t ht
        have A0 := (hbw.cell (p := ⟨g, off + k * 3, Option.none⟩) gl).trans a0
        have A1 := (hbw.cell (p := ⟨g, off + k * 3 + 1, Option.none⟩) gl).trans a1
        have A2 := (hbw.cell (p := ⟨g, off + k * 3 + 2, Option.none⟩) gl).trans a2
        have Htk : Hid (bytesOf (ts.take (k + 1)) = bytesOf (ts.take k) + t.s.length) := show bytesOf (ts.take (k + 1)) = bytesOf (ts.take k) + t.s.length by rw [take_snoc ht, bytesOf_snoc]
        have hl0 : (0 : Int) ≤ (left : Int) := by omega
        have hl1 : (left : Int) ≤ 1048576 := by omega
        clear a0 a1 a2 hc hlb ht
        by_cases hd : (left : Int) < (t.s.length : Int)
        · go_wp2_with fail
          refine (szTok_is t htl (left : Int) hl0 hl1 _).mono ?_
          rw [if_pos hd]
          rintro e w1 ⟨rfl, hb1⟩
          have hbw1 := hbw.trans (hb1.mono hbw.size)
          clear hb1 hbw A0 A1 A2
          go_wp2
          go_ret
          exact ⟨_, rfl, by omega, by omega, fun h => absurd h (by omega), hbw1⟩
        · go_wp2_with fail
          refine (szTok_is t htl (left : Int) hl0 hl1 _).mono ?_
          rw [if_neg (by omega : ¬ (left : Int) < (t.s.length : Int))]
          rintro e w1 ⟨rfl, hb1⟩
          have hbw1 := hbw.trans (hb1.mono hbw.size)
          have hnn : ¬ (left : Int) - (t.s.length : Int) < 0 := by omega
          clear hb1 hbw A0 A1 A2
          go_wp2
          all_goals first
            | omega
            | (go_roundw
               case rel => exact ⟨k + 1, left - t.s.length, by omega, by go_num, val_int (by omega), (by have h1 := hl.out; have h2 := Htk.out; show left - t.s.length + ts.length + bytesOf (ts.take (k + 1)) = 1048576; omega), hbw1⟩
               case measure => simp [RowKit.intOf]; omega)
      · have hkk : ts.take k = ts := List.take_of_length_le (by omega)
        rw [hkk] at hlb
        go_wp2
        go_ret
        exact ⟨_, rfl, by omega, by omega, fun _ => by omega, hbw⟩
set_option maxHeartbeats 1000000 in
theorem toTok_is (t : T) (w : World) :
    Calls Tryd.prog 45 #[.agg #[.int .i64 t.k, .string ⟨t.s.toArray⟩, .int .i64 t.n]] w fun e w' => e = .returned (.agg #[.int .i64 t.k, .string ⟨t.s.toArray⟩, .int .i64 t.n]) ∧ Below w.heap.size w w' := by
  go_enter Tryd.func45, Tryd.ntmps45
  go_wp2
  exact bodyPost_ret (v := .agg #[.int .i64 t.k, .string ⟨t.s.toArray⟩, .int .i64 t.n]) (by simp [results, Tryd.results45, go_sem]) rfl ⟨rfl, (((Below.refl _ w).alloc (Nat.le_refl _) _).alloc (by simp) _).alloc (by simp; omega) _⟩
def zeroT : T := ⟨0, [], 0⟩
theorem zeros_cells (n : Nat) : (madeCells #[.int .i64 0, .string ⟨#[]⟩, .int .i64 0] (n * 3)).toList = cellsOf (List.replicate n zeroT) := by
  unfold madeCells
  rw [Array.toList_map, Array.toList_range]
  induction n with
  | zero => rfl
  | succ n ih =>
    rw [show (n + 1) * 3 = n * 3 + 1 + 1 + 1 by omega, List.range_succ, List.range_succ, List.range_succ, List.map_append, List.map_append, List.map_append, ih, List.replicate_succ', cellsOf_snoc]
    have h0 : (n * 3) % 3 = 0 := by omega
    have h1 : (n * 3 + 1) % 3 = 1 := by omega
    have h2 : (n * 3 + 1 + 1) % 3 = 2 := by omega
    simp [cells3, zeroT, h0, h1, h2]
set_option maxHeartbeats 2000000 in
theorem toTokS_is (ts : List T) (hn : ts.length ≤ 1048576) (v : Value) (w : World) (hr : ARow w v ts) :
    Calls Tryd.prog 21 #[v] w fun e w' => ∃ v', e = .returned v' ∧ w'.ownsRow w.heap.size 47 3 v' ts.length (cellsOf ts) ∧ Below w.heap.size w w' := by
  obtain ⟨ao, cap, rfl, hm, hr⟩ := hr
  obtain ⟨i0, hi, hz0, hz1, hz2⟩ := info_parts infoTok
  go_enter Tryd.func21, Tryd.ntmps21
  go_wp2_with (refine wpList_make_full _ rfl _ _ 25 rfl w.heap.size 47 i0 _ 3 Tryd.underlying25 hi hz0 hz1 .i64 .i64 _ _ ts.length rfl rfl rfl rfl ?c1 ?c2 ?c3 ?_)
  case c1 => rw [hz2]; omega
  case c2 => unfold maxLen; omega
  case c3 => exact Nat.le_refl _
  intro w1 hown hgrow
  rw [zeros_cells] at hown
  have hbw : Below w.heap.size w w1 := (Below.refl _ w).grown hgrow (Nat.le_refl _) (fun k hk => by cases hk)
  have Hown := Lib.hid hown
  clear hown hgrow
  go_wp2
  go_loopw [4] (fun i wr => ∃ k : Nat, k ≤ ts.length ∧ i = .int .i64 k ∧ wr.ownsRow w.heap.size 47 3 (.slice (some ⟨w.heap.size, 0, Option.none⟩) ts.length ts.length) ts.length (cellsOf (ts.take k ++ List.replicate (ts.length - k) zeroT)) ∧ Below w.heap.size w wr) (fun i _ => ts.length - (RowKit.intOf i).toNat)
  case atStart => exact ⟨0, by omega, rfl, Hown.out, hbw⟩
  case round =>
    obtain ⟨k, hk, rfl, ho, hb⟩ := hrel
    by_cases hlt : k < ts.length
    · have hltI : (k : Int) < (ts.length : Int) := by omega
      obtain ⟨t, ht⟩ : ∃ t, ts[k]? = some t := ⟨ts[k], List.getElem?_eq_getElem hlt⟩
      rcases hr with hr | ⟨g, off, rfl, gl, hc⟩
      · subst hr; simp at hlt
      obtain ⟨a0, a1, a2⟩ := hc k t ht
      have A0 := (hb.cell (p := ⟨g, off + k * 3, Option.none⟩) gl).trans a0
      have A1 := (hb.cell (p := ⟨g, off + k * 3 + 1, Option.none⟩) gl).trans a1
      have A2 := (hb.cell (p := ⟨g, off + k * 3 + 2, Option.none⟩) gl).trans a2
      have htl : (ts.take k).length = k := by rw [List.length_take]; omega
      rw [show ts.length - k = (ts.length - (k + 1)) + 1 by omega, List.replicate_succ] at ho
      have hget := cellsOf_get (ts.take k ++ zeroT :: List.replicate (ts.length - (k + 1)) zeroT) k zeroT (by rw [List.getElem?_append_right (by omega), htl]; simp)
      have Htk : Hid (ts.take (k + 1) = ts.take k ++ [t]) := take_snoc ht
      clear a0 a1 a2 hc ht
      go_wp2_with fail
      refine (toTok_is t _).mono ?_
      rintro e w2 ⟨rfl, hb2⟩
      have ho2 := own_below ho hb2
      have hbw2 := hb.trans (hb2.mono hb.size)
      obtain ⟨c0, f0⟩ := cells_own ho2 hget.1
      obtain ⟨c1, f1⟩ := cells_own ho2 hget.2.1
      obtain ⟨c2, f2⟩ := cells_own ho2 hget.2.2
      have ho5 := own_set (own_set (own_set ho2 (j := k * 3) (by omega) (.int .i64 t.k)) (j := k * 3 + 1) (by omega) (.string ⟨t.s.toArray⟩)) (j := k * 3 + 2) (by omega) (.int .i64 t.n)
      rw [cellsOf_set (ts.take k) _ zeroT t k htl] at ho5
      have hbw5 := ((hbw2.setCell (p := ⟨w.heap.size, k * 3, Option.none⟩) (Nat.le_refl _) (.int .i64 t.k)).setCell (p := ⟨w.heap.size, k * 3 + 1, Option.none⟩) (Nat.le_refl _) (.string ⟨t.s.toArray⟩)).setCell (p := ⟨w.heap.size, k * 3 + 2, Option.none⟩) (Nat.le_refl _) (.int .i64 t.n)
      clear ho ho2 hb hb2 hbw2 hget A0 A1 A2
      go_wp2
      go_roundw
      case rel => exact ⟨k + 1, by omega, by go_num, by rw [Htk.out, List.append_assoc]; exact ho5, hbw5⟩
      case measure => simp [RowKit.intOf]; omega
    · have hkk : ts.take k = ts := List.take_of_length_le (by omega)
      have hz : ts.length - k = 0 := by omega
      rw [hkk, hz, List.replicate_zero, List.append_nil] at ho
      go_wp2
      go_ret
      exact ⟨_, rfl, ho, hb⟩
end Go.Proofs.YtoogikibmdjpiaaDoor
