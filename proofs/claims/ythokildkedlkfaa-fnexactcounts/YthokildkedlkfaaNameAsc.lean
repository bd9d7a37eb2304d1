/-
  The contract of the landed code's ascending: the names of a map, in order, in memory of their own.
-/
import Derived.Test.YthokildkedlkfaaNamePut
import Derived.Test.YthokildkedlkfaaNameShelf
import Derived.Maps.OwnSet
import Derived.Lib.SmallJoins
namespace Go.Proofs.Ythokildkedlkfaa
open Go.RowKit Go.Lib Go.Maps Go.Sort
set_option linter.unusedSimpArgs false
set_option linter.unusedVariables false

set_option maxRecDepth 100000 in
theorem clone_is (s : ByteArray) (w : World) (hlim : s.size ≤ 10000000) :
    Calls Try.prog 91 #[.string s] w fun e w' => e = .returned (.string s) ∧ Below w.heap.size w w' := by
  have C := Lib.hid (Try.clone s w (by omega))
  go_enter Try.func91, Try.ntmps91
  go_wp2_with fail
  refine C.out.mono ?_
  rintro e w1 ⟨rfl, hb1⟩
  go_wp2
  go_ret
  exact ⟨rfl, hb1⟩
theorem own_same {w : World} {B n g cap j : Nat} {e : TypeId} {xs : List Value} {u : Value} (h : w.ownsRow B e 1 (.slice (some ⟨g, 0, Option.none⟩) n cap) n xs) (hj : xs[j]? = some u) : (w.setCell ⟨g, j, Option.none⟩ u).ownsRow B e 1 (.slice (some ⟨g, 0, Option.none⟩) n cap) n xs := by
  have e0 : xs.set j u = xs := by
    apply List.ext_getElem?
    intro i
    rw [List.getElem?_set]
    split
    · rename_i hij
      subst hij
      split
      · exact hj.symm
      · rename_i hlt; rw [List.getElem?_eq_none (by omega)]
    · rfl
  refine ⟨h.1, ?_⟩
  rcases h.2 with ⟨h0, _⟩ | ⟨g', cap', cur, h1, h2, h3, h4, h5, h6, h7⟩
  · cases h0
  · injection h1 with e1 e2 e3
    injection e1 with e1
    injection e1 with e1
    subst e1; subst e3
    exact .inr ⟨g, cap, cur.setIfInBounds j u, rfl, h2, Joins.block_setCell h3 u, h4, h5, by simpa using h6, by rw [Array.toList_setIfInBounds, List.take_set, h7, e0]⟩
theorem cell_own {w : World} {B n g cap : Nat} {e : TypeId} {xs : List Value} (h : w.ownsRow B e 1 (.slice (some ⟨g, 0, Option.none⟩) n cap) n xs) {j : Nat} {u : Value} (hu : xs[j]? = some u) : w.cell? ⟨g, j, Option.none⟩ = some u ∧ w.frozen? ⟨g, j, Option.none⟩ = false := by
  refine ⟨own_cell h hu, ?_⟩
  rcases h.2 with ⟨h0, _⟩ | ⟨g', cap', cur, h1, h2, h3, _⟩
  · cases h0
  · injection h1 with e1 e2 e3
    injection e1 with e1
    injection e1 with e1
    subst e1
    simp [World.frozen?, h3]
/-- The names of a map, in order. -/
def mapNames (ss : List (List UInt8)) : List ByteArray := (ss.mergeSort (fun x y => decide (x ≤ y))).map fun l => ⟨l.toArray⟩
theorem mapNames_len (ss : List (List UInt8)) : (mapNames ss).length = ss.length := by simp [mapNames]
set_option maxHeartbeats 2000000 in
set_option maxRecDepth 100000 in
theorem ascending_is (b nn : Nat) (D0 : DataW Unit) (w : World) (hown : w.ownsMap Try.prog 9 (plainElem Try.prog 3) b nn D0) (hsz : Maps.size D0 ≤ 10000000) (hsm : ∀ x ∈ strKeys D0, x.length ≤ 10000000) :
    Calls Try.prog 87 #[.map (some b)] w fun e w' => ∃ (v : Value) (ss : List (List UInt8)), e = .returned v ∧ ss.Perm (strKeys D0) ∧ w'.ownsRow w.heap.size 9 1 v (mapNames ss).length ((mapNames ss).map Value.string) ∧ Below w.heap.size w w' := by
  have K := Lib.hid (Try.maps_Keys (some b) w)
  have S := Lib.hid (Try.sorted_keys b nn D0 _ w hown (by unfold maxLen; omega) (by omega))
  have Hsm := Lib.hid hsm
  clear hown hsm
  go_enter Try.func87, Try.ntmps87
  go_wp2_with fail
  refine K.out.mono ?_
  rintro e w1 ⟨rfl, rfl⟩
  go_wp2_with fail
  refine S.out.mono ?_
  rintro e w2 ⟨v, ss, rfl, hp, hrow, _, hb⟩
  have hlen : ss.length ≤ 10000000 := by rw [hp.length_eq]; refine Nat.le_trans ?_ hsz; cases D0 <;> simp [strKeys, Maps.size]
  have hB : Below w.heap.size w w2 := below_alloc hb
  have hrow' : w2.ownsRow w.heap.size 9 1 v (mapNames ss).length ((mapNames ss).map Value.string) := by
    have e1 : (ss.mergeSort (fun x y => decide (x ≤ y))).map encStr = (mapNames ss).map Value.string := by simp [mapNames, encStr, Function.comp]
    rw [mapNames_len, ← e1]
    exact ownsRow_base_a hrow (by simp)
  have hsmall : ∀ s ∈ mapNames ss, s.size ≤ 10000000 := fun s hs => by
    simp only [mapNames, List.mem_map] at hs
    obtain ⟨l, hl, rfl⟩ := hs
    exact Hsm.out l (hp.subset ((List.mergeSort_perm ss _).subset hl))
  have hl2 : (mapNames ss).length ≤ 10000000 := by rw [mapNames_len]; exact hlen
  have HP := Lib.hid hp
  have HS := Lib.hid hsmall
  obtain ⟨ns, hns⟩ : ∃ ns, Hid (mapNames ss = ns) := ⟨_, rfl⟩
  rw [hns.out] at hrow' hl2
  have HS' : Hid (∀ s ∈ ns, s.size ≤ 10000000) := by rw [← hns.out]; exact HS
  obtain ⟨va, vc, rfl⟩ := ownShape hrow'
  clear hrow hb hp hlen hsmall K S Hsm HS
  go_wp2
  go_loopw [11] (fun i wr => ∃ k : Nat, k ≤ ns.length ∧ i = .int .i64 k ∧ wr.ownsRow w.heap.size 9 1 (.slice va ns.length vc) ns.length (ns.map Value.string) ∧ Below w.heap.size w wr) (fun i _ => ns.length - (RowKit.intOf i).toNat)
  case atStart => exact ⟨0, by omega, rfl, hrow', hB⟩
  case round =>
    obtain ⟨k, hk, rfl, ho, hbr⟩ := hrel
    clear hrow' hB
    by_cases hlt : k < ns.length
    · have hltI : (k : Int) < (ns.length : Int) := by omega
      obtain ⟨m, hm⟩ : ∃ m, ns.length = m + 1 := ⟨ns.length - 1, by omega⟩
      obtain ⟨g, hva⟩ : ∃ g, va = some ⟨g, 0, Option.none⟩ := by
        have ho' := ho
        rw [hm] at ho'
        obtain ⟨g, cap, e1, _⟩ := own_some ho'
        injection e1 with e1
        exact ⟨g, e1⟩
      subst hva
      obtain ⟨s, hs⟩ : ∃ s, ns[k]? = some s := ⟨ns[k], List.getElem?_eq_getElem hlt⟩
      have hs2 : (ns.map Value.string)[k]? = some (.string s) := by rw [List.getElem?_map, hs]; rfl
      obtain ⟨c0, f0⟩ := cell_own ho hs2
      have hsl := HS'.out s (List.mem_of_getElem? hs)
      have Hs := Lib.hid hs2
      clear hs hs2 hm
      go_wp2_with fail
      refine (clone_is s _ hsl).mono ?_
      rintro e w3 ⟨rfl, hb3⟩
      have ho3 := ownB ho hb3
      have hbr3 := hbr.trans (hb3.mono hbr.size)
      obtain ⟨c3, f3⟩ := cell_own ho3 Hs.out
      have n1 := own_same ho3 Hs.out
      have hgB : w.heap.size ≤ g := (ho3.lt g rfl).1
      have n2 := hbr3.setCell (p := ⟨g, k, Option.none⟩) hgB (.string s)
      clear ho ho3 hbr hbr3 hb3 c0 f0
      go_wp2
      go_roundw
      case rel => exact ⟨k + 1, by omega, by go_num, n1, n2⟩
      case measure => simp [RowKit.intOf]; omega
    · go_wp2
      go_ret
      exact ⟨_, ss, rfl, HP.out, by rw [hns.out]; exact ho, hbr⟩
end Go.Proofs.Ythokildkedlkfaa
