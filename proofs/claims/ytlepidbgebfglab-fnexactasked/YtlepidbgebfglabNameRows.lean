/-
  The contracts of eqStringS, markStringS, heldStringS.
-/
import Derived.Test.YtlepidbgebfglabNamePut
import Derived.Test.YtlepidbgebfglabNameAsc
import Derived.Test.YtlepidbgebfglabMarkText
import Derived.Deep.RegionWith
import Derived.Deep.Cut
import Derived.Deep.CutRange
namespace Go.Proofs.Ytlepidbgebfglab
open Go.RowKit Go.Lib
set_option linter.unusedSimpArgs false
set_option linter.unusedVariables false

set_option maxHeartbeats 2000000 in
set_option maxRecDepth 100000 in
theorem eqStringS_same (ns : List ByteArray) (hlen : ns.length ≤ 100000000) (va vb : Value) (w : World) (ha : TV w 0 va ns) (hb : TV w 0 vb ns) :
    Calls Try.prog 10 #[va, vb] w fun e w' => e = .returned (.bool true) ∧ Below w.heap.size w w' := by
  obtain ⟨ao, ca, rfl, ha⟩ := ha
  obtain ⟨bo, cb, rfl, hb⟩ := hb
  go_enter Try.func10, Try.ntmps10
  go_wp2
  go_loopw [5] (fun i wr => ∃ k : Nat, k ≤ ns.length ∧ i = .int .i64 k ∧ Below w.heap.size w wr) (fun i _ => ns.length - (RowKit.intOf i).toNat)
  case atStart => exact ⟨0, by omega, rfl, Below.refl _ _⟩
  case round =>
    obtain ⟨k, hk, rfl, hbw⟩ := hrel
    by_cases hlt : k < ns.length
    · obtain ⟨t, ht⟩ : ∃ t, ns[k]? = some t := ⟨ns[k], List.getElem?_eq_getElem hlt⟩
      rcases ha with ha | ⟨ga, oa, rfl, _, gla, hca⟩
      · subst ha; simp at hlt
      rcases hb with hb | ⟨gb, ob, rfl, _, glb, hcb⟩
      · subst hb; simp at hlt
      have A0 := (hbw.cell (p := ⟨ga, oa + k, Option.none⟩) gla).trans (hca k t ht)
      have B0 := (hbw.cell (p := ⟨gb, ob + k, Option.none⟩) glb).trans (hcb k t ht)
      have hltI : (k : Int) < (ns.length : Int) := by omega
      clear hca hcb ht
      go_wp2_with fail
      go_cut [25] from 11 to 25 (fun v wx => v = .bool false ∧ Below wr.heap.size wr wx)
      case first =>
        go_region_with fail
        all_goals (try go_wp2_with fail)
        all_goals go_meet
        all_goals exact ⟨by simp, (Below.refl _ wr).drew⟩
      case rest =>
        obtain ⟨rfl, hb1⟩ := hcut
        have hbw2 := hbw.trans (hb1.mono hbw.size)
        clear A0 B0 hb1
        go_wp2
        go_roundw
        case rel => exact ⟨k + 1, by omega, by go_num, hbw2⟩
        case measure => simp [RowKit.intOf]; omega
    · go_wp2
      go_ret
      exact ⟨rfl, hbw⟩
/-- Marks from m on. -/
def tmarks (m : Nat) : Nat → List ByteArray
  | 0 => []
  | n + 1 => tmarks m n ++ [⟨(mtext (m + n)).toArray⟩]
theorem tmarks_len (m n : Nat) : (tmarks m n).length = n := by
  induction n with
  | zero => rfl
  | succ n ih => simp [tmarks, ih]
theorem tmarks_get (m n k : Nat) (h : k < n) : (tmarks m n)[k]? = some ⟨(mtext (m + k)).toArray⟩ := by
  induction n with
  | zero => omega
  | succ n ih =>
    rw [tmarks]
    by_cases e : k = n
    · subst e
      rw [List.getElem?_append_right (by rw [tmarks_len]; exact Nat.le_refl _), tmarks_len]; simp
    · rw [List.getElem?_append_left (by rw [tmarks_len]; omega)]
      exact ih (by omega)
set_option maxHeartbeats 2000000 in
set_option maxRecDepth 100000 in
theorem heldStringS_is (n m : Nat) (hm1 : 1 ≤ m) (hm : m + n ≤ 20000000) (v : Value) (w : World) (hr : TV w 0 v (tmarks m n)) :
    Calls Try.prog 14 #[v, .int .i64 (m : Int)] w fun e w' => e = .returned (.int .i64 ((m : Int) + (n : Int))) ∧ Below w.heap.size w w' := by
  obtain ⟨ao, cap, rfl, hr⟩ := hr
  rw [tmarks_len]
  go_enter Try.func14, Try.ntmps14
  go_wp2
  go_loopw [1, 5] (fun x i wr => ∃ k : Nat, k ≤ n ∧ i = .int .i64 k ∧ x = .int .i64 ((m : Int) + (k : Int)) ∧ Below w.heap.size w wr) (fun _ i _ => n - (RowKit.intOf i).toNat)
  case atStart => exact ⟨0, by omega, rfl, by go_num, Below.refl _ _⟩
  case round =>
    obtain ⟨k, hk, rfl, rfl, hbw⟩ := hrel
    by_cases hlt : k < n
    · have hltI : (k : Int) < (n : Int) := by omega
      rcases hr with hr | ⟨g, off, rfl, _, gl, hc⟩
      · have := tmarks_len m n; rw [hr] at this; simp at this; omega
      have A0 := (hbw.cell (p := ⟨g, off + k, Option.none⟩) gl).trans (hc k _ (tmarks_get m n k hlt))
      clear hc
      go_wp2_with fail
      go_cut [18] from 6 to 18 (fun x wx => x = .bool false ∧ Below wr.heap.size wr wx)
      case first =>
        go_region_with (go_at_call 24; refine (markText_is (m + k) (by omega) (by omega) _).mono ?_; rintro e w1 ⟨rfl, hb1⟩; have A1' := (hb1.cell (p := ⟨g, off + k, Option.none⟩) (Nat.lt_of_lt_of_le gl hbw.size)).trans A0)
        all_goals (try go_wp2_with fail)
        all_goals go_meet
        all_goals exact ⟨by simp, ⟨hb1.os, hb1.tape, hb1.output, hb1.size, hb1.block⟩⟩
      case rest =>
        obtain ⟨rfl, hb1⟩ := hcut
        have hbw2 := hbw.trans (hb1.mono hbw.size)
        clear A0 hb1
        go_wp2
        go_roundw
        case rel => exact ⟨k + 1, by omega, by go_num, by go_num, hbw2⟩
        case measure => simp [RowKit.intOf]; omega
    · obtain rfl : k = n := by omega
      go_wp2
      go_ret
      exact ⟨rfl, hbw⟩
theorem own_put {w : World} {B n g cap j : Nat} {e : TypeId} {xs : List Value} (h : w.ownsRow B e 1 (.slice (some ⟨g, 0, Option.none⟩) n cap) n xs) (u : Value) : (w.setCell ⟨g, j, Option.none⟩ u).ownsRow B e 1 (.slice (some ⟨g, 0, Option.none⟩) n cap) n (xs.set j u) := by
  refine ⟨by rw [List.length_set]; exact h.1, ?_⟩
  rcases h.2 with ⟨h0, _⟩ | ⟨g', cap', cur, h1, h2, h3, h4, h5, h6, h7⟩
  · cases h0
  · injection h1 with e1 e2 e3
    injection e1 with e1
    injection e1 with e1
    subst e1; subst e3
    exact .inr ⟨g, cap, cur.setIfInBounds j u, rfl, h2, Joins.block_setCell h3 u, h4, h5, by simpa using h6, by rw [Array.toList_setIfInBounds, List.take_set, h7]⟩
theorem marks_step (ns : List ByteArray) (m k : Nat) (hk : k < ns.length) : ((tmarks m k ++ ns.drop k).map Value.string).set k (.string ⟨(mtext (m + k)).toArray⟩) = (tmarks m (k + 1) ++ ns.drop (k + 1)).map Value.string := by
  have hl := tmarks_len m k
  have e : (tmarks m k ++ ns.drop k).map Value.string = (tmarks m k).map Value.string ++ (Value.string ns[k] :: (ns.drop (k + 1)).map Value.string) := by rw [List.drop_eq_getElem_cons hk, List.map_append, List.map_cons]
  rw [e, List.set_append_right _ _ (by rw [List.length_map, hl]; exact Nat.le_refl _), List.length_map, hl, Nat.sub_self, List.set_cons_zero, tmarks, List.map_append, List.map_append, List.map_cons, List.map_nil, List.append_assoc]
  rfl
set_option maxHeartbeats 2000000 in
set_option maxRecDepth 100000 in
theorem markStringS_is (ns : List ByteArray) (m : Nat) (hm1 : 1 ≤ m) (hm : m + ns.length ≤ 20000000) (B : Nat) (v : Value) (w : World) (hB : B ≤ w.heap.size) (hown : w.ownsRow B 9 1 v ns.length (ns.map Value.string)) :
    Calls Try.prog 13 #[v, .int .i64 (m : Int)] w fun e w' => e = .returned (.int .i64 ((m : Int) + (ns.length : Int))) ∧ w'.ownsRow B 9 1 v ns.length ((tmarks m ns.length).map Value.string) ∧ Below B w w' := by
  obtain ⟨va, vc, rfl⟩ := ownShape hown
  go_enter Try.func13, Try.ntmps13
  go_wp2
  go_loopw [1, 5] (fun x i wr => ∃ k : Nat, k ≤ ns.length ∧ i = .int .i64 k ∧ x = .int .i64 ((m : Int) + (k : Int)) ∧ wr.ownsRow B 9 1 (.slice va ns.length vc) ns.length ((tmarks m k ++ ns.drop k).map Value.string) ∧ Below B w wr) (fun _ i _ => ns.length - (RowKit.intOf i).toNat)
  case atStart => exact ⟨0, by omega, rfl, by go_num, by simpa [tmarks] using hown, Below.refl _ _⟩
  case round =>
    obtain ⟨k, hk, rfl, rfl, ho, hbr⟩ := hrel
    clear hown
    by_cases hlt : k < ns.length
    · have hltI : (k : Int) < (ns.length : Int) := by omega
      obtain ⟨q, hq⟩ : ∃ q, ns.length = q + 1 := ⟨ns.length - 1, by omega⟩
      obtain ⟨g, hva⟩ : ∃ g, va = some ⟨g, 0, Option.none⟩ := by
        have ho' := ho
        rw [hq] at ho'
        obtain ⟨g, cap, e1, _⟩ := own_some ho'
        injection e1 with e1
        exact ⟨g, e1⟩
      subst hva
      have hs2 : ((tmarks m k ++ ns.drop k).map Value.string)[k]? = some (.string ns[k]) := by
        rw [List.getElem?_map, List.getElem?_append_right (by rw [tmarks_len]; exact Nat.le_refl _), tmarks_len, Nat.sub_self, List.drop_eq_getElem_cons hlt]; rfl
      have Hs := Lib.hid hs2
      have Hst := Lib.hid (marks_step ns m k hlt)
      clear hs2 hq
      go_wp2_with fail
      refine (markText_is (m + k) (by omega) (by omega) _).mono ?_
      rintro e w3 ⟨rfl, hb3⟩
      have ho3 := ownB ho hb3
      have hbr3 := hbr.trans (hb3.mono (Nat.le_trans hB hbr.size))
      obtain ⟨c3, f3⟩ := cell_own ho3 Hs.out
      have n1 := own_put (j := k) ho3 (.string ⟨(mtext (m + k)).toArray⟩)
      rw [Hst.out] at n1
      have hgB : B ≤ g := (ho3.lt g rfl).1
      have n2 := hbr3.setCell (p := ⟨g, k, Option.none⟩) hgB (.string ⟨(mtext (m + k)).toArray⟩)
      have N1 := Lib.hid n1
      clear ho ho3 hbr hbr3 hb3 n1
      go_wp2
      go_roundw
      case rel => exact ⟨k + 1, by omega, by go_num, by go_num, N1.out, n2⟩
      case measure => simp [RowKit.intOf]; omega
    · obtain rfl : k = ns.length := by omega
      rw [List.drop_length, List.append_nil] at ho
      have HO := Lib.hid ho
      clear ho
      go_wp2
      go_ret
      exact ⟨rfl, HO.out, hbr⟩
end Go.Proofs.Ytlepidbgebfglab
