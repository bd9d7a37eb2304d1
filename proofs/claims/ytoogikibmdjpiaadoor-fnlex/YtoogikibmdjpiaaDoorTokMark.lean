/-
  The contracts of markText, markTokS and heldTokS: a row of signs is marked, and the marks are found again.
-/
import Derived.Test.YtoogikibmdjpiaaDoorTokLaws
namespace Go.Proofs.YtoogikibmdjpiaaDoor
open Go.RowKit Go.Lib
set_option linter.unusedSimpArgs false

def mtext (k : Nat) : List UInt8 := 109 :: decDigits k
set_option maxHeartbeats 1000000 in
set_option maxRecDepth 100000 in
theorem markText_is (k : Nat) (h1 : 1 ≤ k) (h2 : k ≤ 100000000) (w : World) :
    Calls Tryd.prog 43 #[.int .i64 (k : Int)] w fun e w' => e = .returned (.string ⟨(mtext k).toArray⟩) ∧ Below w.heap.size w w' := by
  have hk0 : ¬ (k : Int) ≤ 0 := by omega
  go_enter Tryd.func43, Tryd.ntmps43
  go_wp2
  go_loopw [0, 3] (fun x s wr => ∃ (t : List UInt8) (u : Nat), s = .string ⟨t.toArray⟩ ∧ x = .int .i64 (u : Int) ∧ u ≤ k ∧ Hid (Digs k u t) ∧ Below w.heap.size w wr) (fun x _ _ => (RowKit.intOf x).natAbs)
  case atStart => exact ⟨[], k, rfl, rfl, Nat.le_refl _, digs_start _ h1, Below.refl _ _⟩
  case round =>
    obtain ⟨t, u, rfl, rfl, hu, hd, hb⟩ := hrel
    have hlt := digs_len hd.out (by omega)
    by_cases hz : u = 0
    · subst hz
      go_wp2
      go_ret
      exact ⟨ret_str (by rw [mtext, digs_end hd.out]; exact cat1 [109] t), hb⟩
    · have hu0 : (0 : Int) < (u : Int) := by omega
      have e2 := conv1 wr (48 + ((u : Int) % 10)) (by omega) (by omega)
      go_wp2
      go_roundw
      case rel => exact ⟨_, u / 10, val_str (str_step u t), val_int (by omega), by omega, digs_step hd.out hz, hb.alloc hb.size _⟩
      case measure => simp [RowKit.intOf]; omega

/-- The marks that are laid from m on. -/
def marksFrom (m : Nat) : Nat → List T
  | 0 => []
  | n + 1 => marksFrom m n ++ [⟨(m : Int) + 3 * (n : Int), mtext (m + 3 * n + 1), (m : Int) + 3 * (n : Int) + 2⟩]
theorem marksFrom_length (m n : Nat) : (marksFrom m n).length = n := by
  induction n with
  | zero => rfl
  | succ n ih => simp [marksFrom, ih]
theorem marksFrom_get (m n k : Nat) (h : k < n) : (marksFrom m n)[k]? = some ⟨(m : Int) + 3 * (k : Int), mtext (m + 3 * k + 1), (m : Int) + 3 * (k : Int) + 2⟩ := by
  induction n with
  | zero => omega
  | succ n ih =>
    rw [marksFrom]
    by_cases e : k = n
    · subst e
      rw [List.getElem?_append_right (by rw [marksFrom_length]; exact Nat.le_refl _), marksFrom_length]; simp
    · rw [List.getElem?_append_left (by rw [marksFrom_length]; omega)]
      exact ih (by omega)
theorem own_set {w : World} {B n g cap j : Nat} {e : TypeId} {xs : List Value} (h : w.ownsRow B e 3 (.slice (some ⟨g, 0, Option.none⟩) n cap) n xs) (_hj : j < n * 3) (u : Value) : (w.setCell ⟨g, j, Option.none⟩ u).ownsRow B e 3 (.slice (some ⟨g, 0, Option.none⟩) n cap) n (xs.set j u) := by
  refine ⟨by rw [List.length_set]; exact h.1, ?_⟩
  rcases h.2 with ⟨h0, _⟩ | ⟨g', cap', cur, h1, h2, h3, h4, h5, h6, h7⟩
  · cases h0
  · injection h1 with e1 e2 e3
    injection e1 with e1
    injection e1 with e1
    subst e1; subst e3
    exact .inr ⟨g, cap, cur.setIfInBounds j u, rfl, h2, Joins.block_setCell h3 u, h4, h5, by simpa using h6, by rw [Array.toList_setIfInBounds, List.take_set, h7]⟩
theorem cellsOf_append (a b : List T) : cellsOf (a ++ b) = cellsOf a ++ cellsOf b := by simp [cellsOf]
theorem cellsOf_set (a d : List T) (t u : T) (k : Nat) (hk : a.length = k) :
    (((cellsOf (a ++ t :: d)).set (k * 3) (.int .i64 u.k)).set (k * 3 + 1) (.string ⟨u.s.toArray⟩)).set (k * 3 + 2) (.int .i64 u.n) = cellsOf (a ++ u :: d) := by
  have hl := cellsOf_length a
  rw [cellsOf_append, cellsOf_append, hk] at *
  have e : ∀ t, cellsOf (t :: d) = .int .i64 t.k :: .string ⟨t.s.toArray⟩ :: .int .i64 t.n :: cellsOf d := fun _ => rfl
  have s1 : ∀ (r : List Value) (i j : Nat) (x : Value), j = k * 3 + i → (cellsOf a ++ r).set j x = cellsOf a ++ r.set i x := by
    intro r i j x hj
    rw [List.set_append, if_neg (by omega), hl]
    congr 2
    omega
  rw [e t, e u, s1 _ 0 _ _ (by omega), s1 _ 1 _ _ rfl, s1 _ 2 _ _ rfl]
  rfl
theorem drop_cons {ts : List T} {k : Nat} (h : k < ts.length) : ts.drop k = ts[k] :: ts.drop (k + 1) := List.drop_eq_getElem_cons h
theorem grown_set {w w1 : World} {g : Nat} (h : w.grownBy w1 (some g)) (j : Nat) (u : Value) : w.grownBy (w1.setCell ⟨g, j, Option.none⟩ u) (some g) :=
  ⟨h.os, h.tape, h.output, by simpa using h.size, fun k hk hne => by rw [Below.heap_setCell _ _ _ _ (fun e => hne (by rw [e]))]; exact h.block k hk hne⟩
theorem grown_below {w w1 w2 : World} {r : Option Nat} (h : w.grownBy w1 r) (hb : Below w1.heap.size w1 w2) : w.grownBy w2 r :=
  ⟨hb.os.trans h.os, hb.tape.trans h.tape, hb.output.trans h.output, Nat.le_trans h.size hb.size, fun k hk hne => (hb.block k (Nat.lt_of_lt_of_le hk h.size)).trans (h.block k hk hne)⟩
theorem cells_own {w : World} {B n g cap : Nat} {e : TypeId} {xs : List Value} (h : w.ownsRow B e 3 (.slice (some ⟨g, 0, Option.none⟩) n cap) n xs) {j : Nat} {u : Value} (hu : xs[j]? = some u) : w.cell? ⟨g, j, Option.none⟩ = some u ∧ w.frozen? ⟨g, j, Option.none⟩ = false := by
  have hc := h.cells (g := g) rfl j u hu
  have e1 : (⟨g, 0, Option.none⟩ : Addr).add j = ⟨g, j, Option.none⟩ := by simp [Addr.add]; omega
  rw [e1] at hc
  refine ⟨hc, ?_⟩
  rcases h.2 with ⟨h0, _⟩ | ⟨g', cap', cur, h1, h2, h3, _⟩
  · cases h0
  · injection h1 with e1 e2 e3
    injection e1 with e1
    injection e1 with e1
    subst e1
    simp [World.frozen?, h3]
set_option maxHeartbeats 4000000 in
theorem markTokS_is (ts : List T) (m : Nat) (hm1 : 1 ≤ m) (hm : m + 3 * ts.length ≤ 10000000) (B : Nat) (v : Value) (w : World) (hown : w.ownsRow B 47 3 v ts.length (cellsOf ts)) :
    Calls Tryd.prog 18 #[v, .int .i64 (m : Int)] w fun e w' => e = .returned (.int .i64 ((m : Int) + 3 * (ts.length : Int))) ∧ w'.ownsRow B 47 3 v ts.length (cellsOf (marksFrom m ts.length)) ∧ w.grownBy w' v.ownBlock := by
  by_cases h0 : ts.length = 0
  · obtain ⟨ao, cap, rfl⟩ := own_shape hown
    obtain rfl : ts = [] := List.length_eq_zero_iff.1 h0
    have Ho := Lib.hid hown
    clear hown h0 hm
    go_enter Tryd.func18, Tryd.ntmps18
    go_wp2
    go_loop [1, 5] (fun x i => x = .int .i64 (m : Int) ∧ i = .int .i64 0) (fun _ _ => 0)
    case atStart => exact ⟨rfl, rfl⟩
    case round =>
      obtain ⟨rfl, rfl⟩ := hrel
      go_wp2
      go_ret
      exact ⟨ret_int (by simp), Ho.out, World.grownBy.refl _ _⟩
  · obtain ⟨g, cap, rfl⟩ : ∃ g cap, v = .slice (some ⟨g, 0, Option.none⟩) ts.length cap := by
      rcases hown.2 with ⟨_, h1⟩ | ⟨g, cap, cur, h1, _⟩
      · exact absurd h1 h0
      · exact ⟨g, cap, h1⟩
    have Hown := Lib.hid hown
    clear hown
    go_enter Tryd.func18, Tryd.ntmps18
    go_wp2
    go_loopw [1, 5] (fun x i wr => ∃ k : Nat, k ≤ ts.length ∧ i = .int .i64 k ∧ x = .int .i64 ((m : Int) + 3 * (k : Int)) ∧ wr.ownsRow B 47 3 (.slice (some ⟨g, 0, Option.none⟩) ts.length cap) ts.length (cellsOf (marksFrom m k ++ ts.drop k)) ∧ w.grownBy wr (some g)) (fun _ i _ => ts.length - (RowKit.intOf i).toNat)
    case atStart => exact ⟨0, by omega, rfl, by go_num, Hown.out, World.grownBy.refl _ _⟩
    case round =>
      obtain ⟨k, hk, rfl, rfl, ho, hg⟩ := hrel
      by_cases hlt : k < ts.length
      · have hltI : (k : Int) < (ts.length : Int) := by omega
        rw [drop_cons hlt] at ho
        have hget := cellsOf_get (marksFrom m k ++ ts[k] :: ts.drop (k + 1)) k ts[k] (by rw [List.getElem?_append_right (by rw [marksFrom_length]; exact Nat.le_refl _), marksFrom_length]; simp)
        obtain ⟨c0, f0⟩ := cells_own ho hget.1
        have ho1 := own_set ho (j := k * 3) (by omega) (.int .i64 ((m : Int) + 3 * (k : Int)))
        have hg1 := grown_set hg (k * 3) (.int .i64 ((m : Int) + 3 * (k : Int)))
        clear ho hg
        go_wp2_with fail
        refine (markText_is (m + 3 * k + 1) (by omega) (by omega) _).mono ?_
        rintro e w1 ⟨rfl, hb1⟩
        have ho2 := own_below ho1 hb1
        have hg2 := grown_below hg1 hb1
        clear ho1 hg1 hb1
        obtain ⟨c1, f1⟩ := cells_own ho2 (j := k * 3 + 1) (u := .string ⟨ts[k].s.toArray⟩) (by rw [List.getElem?_set_ne (by omega)]; exact hget.2.1)
        obtain ⟨c2, f2⟩ := cells_own ho2 (j := k * 3 + 2) (u := .int .i64 ts[k].n) (by rw [List.getElem?_set_ne (by omega)]; exact hget.2.2)
        have ho3 := own_set ho2 (j := k * 3 + 1) (by omega) (.string ⟨(mtext (m + 3 * k + 1)).toArray⟩)
        have hg3 := grown_set hg2 (k * 3 + 1) (.string ⟨(mtext (m + 3 * k + 1)).toArray⟩)
        have ho4 := own_set ho3 (j := k * 3 + 2) (by omega) (.int .i64 ((m : Int) + 3 * (k : Int) + 2))
        have hg4 := grown_set hg3 (k * 3 + 2) (.int .i64 ((m : Int) + 3 * (k : Int) + 2))
        rw [cellsOf_set (marksFrom m k) (ts.drop (k + 1)) ts[k] ⟨(m : Int) + 3 * (k : Int), mtext (m + 3 * k + 1), (m : Int) + 3 * (k : Int) + 2⟩ k (marksFrom_length m k)] at ho4
        clear ho2 hg2 ho3 hg3 hget
        go_wp2
        go_roundw
        case rel => exact ⟨k + 1, by omega, by go_num, by go_num, by rw [marksFrom, List.append_assoc]; exact ho4, hg4⟩
        case measure => simp [RowKit.intOf]; omega
      · obtain rfl : k = ts.length := by omega
        rw [List.drop_length, List.append_nil] at ho
        go_wp2
        go_ret
        exact ⟨rfl, ho, hg⟩
theorem bne_self (s : ByteArray) : (s.toList == s.toList) = true := by simp
set_option maxHeartbeats 4000000 in
theorem heldTokS_is (n m : Nat) (hm1 : 1 ≤ m) (hm : m + 3 * n ≤ 10000000) (v : Value) (w : World) (hr : Row w v (marksFrom m n)) :
    Calls Tryd.prog 19 #[v, .int .i64 (m : Int)] w fun e w' => e = .returned (.int .i64 ((m : Int) + 3 * (n : Int))) ∧ Below w.heap.size w w' := by
  obtain ⟨ao, cap, rfl, hr⟩ := hr
  rw [marksFrom_length]
  go_enter Tryd.func19, Tryd.ntmps19
  go_wp2
  go_loopw [1, 5] (fun x i wr => ∃ k : Nat, k ≤ n ∧ i = .int .i64 k ∧ x = .int .i64 ((m : Int) + 3 * (k : Int)) ∧ Below w.heap.size w wr) (fun _ i _ => n - (RowKit.intOf i).toNat)
  case atStart => exact ⟨0, by omega, rfl, by go_num, Below.refl _ _⟩
  case round =>
    obtain ⟨k, hk, rfl, rfl, hbw⟩ := hrel
    by_cases hlt : k < n
    · have hltI : (k : Int) < (n : Int) := by omega
      rcases hr with hr | ⟨g, rfl, gl, hc⟩
      · have := marksFrom_length m n; rw [hr] at this; simp at this; omega
      obtain ⟨a0, a1, a2⟩ := hc k _ (marksFrom_get m n k hlt)
      have A0 := (hbw.cell (p := ⟨g, k * 3, Option.none⟩) gl).trans a0
      have A1 := (hbw.cell (p := ⟨g, k * 3 + 1, Option.none⟩) gl).trans a1
      have H2 := Lib.hid a2
      clear a0 a1 a2 hc
      go_wp2_with fail
      go_cut [28] from 6 to 39 (fun x wx => x = .bool false ∧ Below wr.heap.size wr wx)
      case first =>
        go_region_with (go_at_call 43; refine (markText_is (m + 3 * k + 1) (by omega) (by omega) _).mono ?_; rintro e w1 ⟨rfl, hb1⟩; have A1' := (hb1.cell (p := ⟨g, k * 3 + 1, Option.none⟩) (Nat.lt_of_lt_of_le gl hbw.size)).trans A1)
        all_goals (try go_wp2_with fail)
        all_goals go_meet
        all_goals exact ⟨by simp, ⟨hb1.os, hb1.tape, hb1.output, hb1.size, hb1.block⟩⟩
      case rest =>
        obtain ⟨rfl, hb1⟩ := hcut
        have hbw2 := hbw.trans (hb1.mono hbw.size)
        have A2 := (hbw2.cell (p := ⟨g, k * 3 + 2, Option.none⟩) gl).trans H2.out
        clear A0 A1 hb1
        go_wp2
        go_roundw
        case rel => exact ⟨k + 1, by omega, by go_num, by go_num, hbw2⟩
        case measure => simp [RowKit.intOf]; omega
    · obtain rfl : k = n := by omega
      go_wp2
      go_ret
      exact ⟨rfl, hbw⟩
end Go.Proofs.YtoogikibmdjpiaaDoor
