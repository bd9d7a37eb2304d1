/-
  Rows of numbers of the call's own: sorted, without what is there twice.
-/
import Derived.Shelf.Sort.Plain
import Derived.Shelf.Slices.In.SortNone
import Derived.Shelf.Slices.CompactI
import Derived.Lib.OwnBridge
import Derived.Sort.OwnSortedInts
import Derived.Test.YtjdpddcnogdekaaIntRow
namespace Go.Proofs
open Go.RowKit Go.Shelf
def Try.lays189_ren : Go.Shelf.Ren := ⟨fun | 189 => 80 | 125 => 94 | 257 => 93 | 128 => 112 | 129 => 113 | 294 => 103 | 295 => 104 | 296 => 105 | 297 => 106 | 298 => 107 | 299 => 108 | 216 => 109 | 300 => 110 | 301 => 111 | 328 => 117 | 329 => 118 | 330 => 119 | 331 => 120 | 332 => 121 | 215 => 122 | 343 => 127 | n => n, fun | 28 => 61 | 3 => 3 | 46 => 108 | 0 => 0 | 51 => 130 | 53 => 132 | 4 => 4 | 183 => 124 | 182 => 123 | 131 => 30 | 5 => 5 | 9 => 9 | 218 => 134 | 222 => 138 | 228 => 143 | 229 => 144 | n => n, fun | n => n⟩
theorem Try.lays189 : Go.Proofs.Lays.n189 Try.prog Try.lays189_ren := {
  mixed := by kernel_rfl
  f125 := Try.func94.trans (congrArg some (by kernel_rfl))
  f128 := Try.func112.trans (congrArg some (by kernel_rfl))
  f129 := Try.func113.trans (congrArg some (by kernel_rfl))
  f189 := Try.func80.trans (congrArg some (by kernel_rfl))
  f215 := Try.func122.trans (congrArg some (by kernel_rfl))
  f216 := Try.func109.trans (congrArg some (by kernel_rfl))
  f257 := Try.func93.trans (congrArg some (by kernel_rfl))
  f294 := Try.func103.trans (congrArg some (by kernel_rfl))
  f295 := Try.func104.trans (congrArg some (by kernel_rfl))
  f296 := Try.func105.trans (congrArg some (by kernel_rfl))
  f297 := Try.func106.trans (congrArg some (by kernel_rfl))
  f298 := Try.func107.trans (congrArg some (by kernel_rfl))
  f299 := Try.func108.trans (congrArg some (by kernel_rfl))
  f300 := Try.func110.trans (congrArg some (by kernel_rfl))
  f301 := Try.func111.trans (congrArg some (by kernel_rfl))
  f328 := Try.func117.trans (congrArg some (by kernel_rfl))
  f329 := Try.func118.trans (congrArg some (by kernel_rfl))
  f330 := Try.func119.trans (congrArg some (by kernel_rfl))
  f331 := Try.func120.trans (congrArg some (by kernel_rfl))
  f332 := Try.func121.trans (congrArg some (by kernel_rfl))
  f343 := Try.func127.trans (congrArg some (by kernel_rfl))
  t0 := Try.underlying0
  a0 := Try.isAgg0
  z0 := Try.sizeOf0
  v0 := Try.zeroValue0
  t3 := Try.underlying3
  a3 := Try.isAgg3
  z3 := Try.sizeOf3
  v3 := Try.zeroValue3
  t4 := Try.underlying4
  a4 := Try.isAgg4
  z4 := Try.sizeOf4
  v4 := Try.zeroValue4
  t5 := Try.underlying5
  a5 := Try.isAgg5
  z5 := Try.sizeOf5
  v5 := Try.zeroValue5
  t9 := Try.underlying9
  a9 := Try.isAgg9
  z9 := Try.sizeOf9
  v9 := Try.zeroValue9
  t28 := Try.underlying61
  a28 := Try.isAgg61
  z28 := Try.sizeOf61
  v28 := Try.zeroValue61
  t46 := Try.underlying108
  a46 := Try.isAgg108
  z46 := Try.sizeOf108
  v46 := Try.zeroValue108
  t51 := Try.underlying130
  a51 := Try.isAgg130
  z51 := Try.sizeOf130
  v51 := Try.zeroValue130
  t53 := Try.underlying132
  a53 := Try.isAgg132
  z53 := Try.sizeOf132
  v53 := Try.zeroValue132
  t131 := Try.underlying30
  a131 := Try.isAgg30
  z131 := Try.sizeOf30
  v131 := Try.zeroValue30
  t182 := Try.underlying123
  a182 := Try.isAgg123
  z182 := Try.sizeOf123
  v182 := Try.zeroValue123
  t183 := Try.underlying124
  a183 := Try.isAgg124
  z183 := Try.sizeOf124
  v183 := Try.zeroValue124
  t218 := Try.underlying134
  a218 := Try.isAgg134
  z218 := Try.sizeOf134
  v218 := Try.zeroValue134
  t222 := Try.underlying138
  a222 := Try.isAgg138
  z222 := Try.sizeOf138
  v222 := Try.zeroValue138
  t228 := Try.underlying143
  a228 := Try.isAgg143
  z228 := Try.sizeOf143
  v228 := Try.zeroValue143
  t229 := Try.underlying144
  a229 := Try.isAgg144
  z229 := Try.sizeOf144
  v229 := Try.zeroValue144 }
def Try.laysNm220_ren : Go.Shelf.Ren := ⟨fun | 20 => 81 | n => n, fun | 22 => 61 | 3 => 3 | 4 => 4 | 0 => 0 | n => n, fun | n => n⟩
theorem Try.laysNm220 : Go.Proofs.Lays2.n20 Try.prog Try.laysNm220_ren := {
  mixed := by kernel_rfl
  f20 := Try.func81.trans (congrArg some (by kernel_rfl))
  t0 := Try.underlying0
  a0 := Try.isAgg0
  z0 := Try.sizeOf0
  v0 := Try.zeroValue0
  t3 := Try.underlying3
  a3 := Try.isAgg3
  z3 := Try.sizeOf3
  v3 := Try.zeroValue3
  t4 := Try.underlying4
  a4 := Try.isAgg4
  z4 := Try.sizeOf4
  v4 := Try.zeroValue4
  t22 := Try.underlying61
  a22 := Try.isAgg61
  z22 := Try.sizeOf61
  v22 := Try.zeroValue61
  i3 := by kernel_rfl }
end Go.Proofs
namespace Go.Proofs.Ytjdpddcnogdekaa
open Go.RowKit Go.Lib
set_option linter.unusedSimpArgs false
set_option linter.unusedVariables false

def srt11 (l : List Int) : List Int := l.mergeSort fun x y => decide (x ≤ y)
theorem srt11_len (l : List Int) : (srt11 l).length = l.length := List.length_mergeSort _
theorem srt11_mem (l : List Int) (x : Int) : x ∈ srt11 l ↔ x ∈ l := (List.mergeSort_perm l _).mem_iff
theorem srt11_sorted (l : List Int) : (srt11 l).Pairwise (· ≤ ·) := by
  have h := List.pairwise_mergeSort (le := fun x y : Int => decide (x ≤ y)) (fun a b c h1 h2 => by simp only [decide_eq_true_eq] at h1 h2 ⊢; omega) (fun a b => by simp only [Bool.or_eq_true, decide_eq_true_eq]; omega) l
  exact h.imp (fun h => by simpa using h)
theorem cUp11 (d : Array Int) (hd : ∀ i j, i < j → j < d.size → d[i]! ≤ d[j]!) : ∀ m, m ≤ d.size →
    (∀ x ∈ compactUpTo d m, ∃ j, j < m ∧ d[j]! = x) ∧ (∀ j, j < m → d[j]! ∈ compactUpTo d m) ∧ (compactUpTo d m).Pairwise (· < ·) ∧ (0 < m → ∀ x ∈ compactUpTo d m, x ≤ d[m - 1]!)
  | 0, _ => by simp [compactUpTo]
  | m + 1, hm => by
    obtain ⟨h1, h2, h3, h4⟩ := cUp11 d hd m (by omega)
    rw [compactUpTo_succ]
    by_cases hk : Go.Lib.keeps d m = true
    · rw [if_pos hk]
      have hlt : ∀ x ∈ compactUpTo d m, x < d[m]! := fun x hx => by
        obtain ⟨j, hj, _⟩ := h1 x hx
        have hx4 := h4 (by omega) x hx
        have hle := hd (m - 1) m (by omega) (by omega)
        simp only [Go.Lib.keeps, decide_eq_true_eq] at hk
        rcases hk with hk | hk
        · omega
        · omega
      refine ⟨fun x hx => ?_, fun j hj => ?_, ?_, fun _ x hx => ?_⟩
      · rcases List.mem_append.1 hx with hx | hx
        · obtain ⟨j, hj, e⟩ := h1 x hx; exact ⟨j, by omega, e⟩
        · simp only [List.mem_singleton] at hx; exact ⟨m, by omega, hx.symm⟩
      · rcases Nat.lt_succ_iff_lt_or_eq.1 hj with hj | rfl
        · exact List.mem_append_left _ (h2 j hj)
        · exact List.mem_append_right _ (by simp)
      · rw [List.pairwise_append]
        exact ⟨h3, by simp, fun a ha b hb => by simp only [List.mem_singleton] at hb; subst hb; exact hlt a ha⟩
      · rw [Nat.add_sub_cancel]
        rcases List.mem_append.1 hx with hx | hx
        · exact Int.le_of_lt (hlt x hx)
        · simp only [List.mem_singleton] at hx; omega
    · rw [if_neg hk, List.append_nil]
      have hm0 : m ≠ 0 ∧ d[m]! = d[m - 1]! := by
        simp only [Go.Lib.keeps, decide_eq_true_eq, not_or, Classical.not_not] at hk
        exact hk
      refine ⟨fun x hx => ?_, fun j hj => ?_, h3, fun _ x hx => ?_⟩
      · obtain ⟨j, hj, e⟩ := h1 x hx; exact ⟨j, by omega, e⟩
      · rcases Nat.lt_succ_iff_lt_or_eq.1 hj with hj | rfl
        · exact h2 j hj
        · rw [hm0.2]; exact h2 _ (by omega)
      · rw [Nat.add_sub_cancel, hm0.2]; exact h4 (by omega) x hx
def cmp11 (l : List Int) : List Int := compact (srt11 l)
theorem cmp11_all (l : List Int) : (∀ x, x ∈ cmp11 l ↔ x ∈ l) ∧ (cmp11 l).Pairwise (· < ·) ∧ (cmp11 l).length ≤ l.length := by
  have hs := srt11_sorted l
  have hd : ∀ i j, i < j → j < (srt11 l).toArray.size → (srt11 l).toArray[i]! ≤ (srt11 l).toArray[j]! := fun i j hij hj => by
    have hj' : j < (srt11 l).length := by simpa using hj
    have := List.pairwise_iff_getElem.1 hs i j (by omega) hj' hij
    simpa [getElem!_pos, show i < (srt11 l).length by omega, hj'] using this
  obtain ⟨h1, h2, h3, _⟩ := cUp11 (srt11 l).toArray hd (srt11 l).length (by simp)
  refine ⟨fun x => ⟨fun hx => ?_, fun hx => ?_⟩, h3, ?_⟩
  · obtain ⟨j, hj, e⟩ := h1 x hx
    rw [← srt11_mem, ← e]
    simp [getElem!_pos, hj]
  · rw [← srt11_mem] at hx
    obtain ⟨j, hj, e⟩ := List.getElem_of_mem hx
    have := h2 j hj
    rwa [show (srt11 l).toArray[j]! = x by simp [getElem!_pos, hj, e]] at this
  · rw [← srt11_len l]; exact compact_length_le _
theorem intsN {P : List Int} {n : Nat} {w : World} {B : Nat} {v : Value} {e : TypeId} (h : w.ownsRow B e 1 v n (ints P)) : P.length = n := by have := h.1; rw [ints_len] at this; omega
theorem sortI_is (P : List Int) (n B : Nat) (v : Value) (w : World) (h : w.ownsRow B 3 1 v n (ints P)) (hB : B ≤ w.heap.size) (hn : n ≤ 1000000) :
    Calls Try.prog 80 #[v] w fun e w' => e = .returned (.tuple #[]) ∧ w'.ownsRow B 3 1 v n (ints (srt11 P)) ∧ Below B w w' := by
  have hl := intsN h
  rcases h.2 with ⟨rfl, rfl⟩ | ⟨g, cap, cur, rfl, hb, hg, hnc, hm, hs, ht⟩
  · have hP : P = [] := List.length_eq_zero_iff.1 hl
    subst hP
    refine (Any.slices_Sort_int_none Try.lays189 Option.none 0 w).mono ?_
    rintro e w' ⟨rfl, rfl⟩
    exact ⟨rfl, by rw [show srt11 [] = [] by simp [srt11]]; exact h, Below.refl _ _⟩
  · subst hl
    rw [Nat.mul_one] at ht
    refine (Any.slices_Sort_int Try.lays189 g 0 cap P w (holds_of_blockI hg ht) (lt_heap hg) (by omega)).mono ?_
    rintro e w' ⟨rfl, q, os, rfl⟩
    refine ⟨rfl, ownsRow_sortedI (srt11_len P) hb hg hnc hm hs, ?_⟩
    exact (Below.refl _ _).grown (grownBy_sortedI _) hB (fun k hk => by injection hk with hk; omega)
theorem compI_is (P : List Int) (n B : Nat) (v : Value) (w : World) (h : w.ownsRow B 3 1 v n (ints P)) (hB : B ≤ w.heap.size) (hn : n ≤ 1000000) :
    Calls Try.prog 81 #[v] w fun e w' => ∃ v', e = .returned v' ∧ w'.ownsRow B 3 1 v' (compact P).length (ints (compact P)) ∧ Below B w w' := by
  have hl := intsN h
  rcases h.2 with ⟨rfl, rfl⟩ | ⟨g, cap, cur, rfl, hb, hg, hnc, hm, hs, ht⟩
  · have hP : P = [] := List.length_eq_zero_iff.1 hl
    subst hP
    refine (Any.slices_Compact_int_empty Try.laysNm220 Option.none 0 w).mono ?_
    rintro e w' ⟨rfl, rfl⟩
    exact ⟨_, rfl, by rw [show compact ([] : List Int) = [] by simp [compact, compactUpTo]]; exact h, Below.refl _ _⟩
  · subst hl
    rw [Nat.mul_one] at ht
    refine (Any.slices_Compact_int Try.laysNm220 g 0 cap P w (holds_of_blockI hg ht) (by omega) hnc).mono ?_
    rintro e w' ⟨rfl, q, rfl⟩
    have hle := compact_length_le P
    have h2 := ownsRow_putRow (enc := Value.int .i64) (q := q) (k := (compact P).length) (ys := compact P ++ List.replicate (P.length - (compact P).length) 0) h (by simp; omega) hle
    rw [List.take_left] at h2
    exact ⟨_, rfl, h2, below_putRow (Below.refl _ _) hb⟩
end Go.Proofs.Ytjdpddcnogdekaa
